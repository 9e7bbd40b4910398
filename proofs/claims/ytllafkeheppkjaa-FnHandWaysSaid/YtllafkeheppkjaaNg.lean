/-
  The contract of impl.NearestFree.
-/
import Derived.Test.YtllafkeheppkjaaNf
import Derived.Laws.Rows
namespace Go.Proofs.Ytllafkeheppkjaa
open Go.RowKit
set_option linter.unusedVariables false

theorem u77 : Try.prog.underlying 77 = some (.array 10 75) := by kernel_rfl
theorem u75 : Try.prog.underlying 75 = some (.array 10 4) := by kernel_rfl
theorem info77 : (Try.prog.info? 77).map (·.size) = some 100 := by kernel_rfl
theorem info75 : (Try.prog.info? 75).map (·.size) = some 10 := by kernel_rfl
theorem load77 (W : World) (g : Nat) (cs : Array Value) (h : W.heap[g]? = some (.cells cs 77 (0, 0))) (hs : cs.size = 100) : (Instr.loadAt 77 (.pointer (some ⟨g, 0, none⟩))).run Try.prog W = .ok (.agg cs) W := by
  simp only [Instr.loadAt, Instr.sureAddr, Sem.run_bind, Sem.run_pure, Result.andThen_ok, run_loadVar_row W g _ _ cs _ _ h u77 rfl (by rw [info77, hs])]
/-- Row r of a table of places. -/
def rowB (l : List Bx) (r : Nat) : Array Value := #[.bool (hasP l r 0), .bool (hasP l r 1), .bool (hasP l r 2), .bool (hasP l r 3), .bool (hasP l r 4), .bool (hasP l r 5), .bool (hasP l r 6), .bool (hasP l r 7), .bool (hasP l r 8), .bool (hasP l r 9)]
theorem rowB_get (l : List Bx) (r c : Nat) (hc : c < 10) : (rowB l r)[c]? = some (.bool (hasP l r c)) := by
  rcases (by omega : c = 0 ∨ c = 1 ∨ c = 2 ∨ c = 3 ∨ c = 4 ∨ c = 5 ∨ c = 6 ∨ c = 7 ∨ c = 8 ∨ c = 9) with rfl | rfl | rfl | rfl | rfl | rfl | rfl | rfl | rfl | rfl <;> rfl
theorem rowB_of {l : List Bx} {cs : Array Value} (hs : cs.size = 100) (h : ∀ r c : Nat, r < 10 → c < 10 → cs[r * 10 + c]? = some (.bool (hasP l r c))) (r : Nat) (hr : r < 10) : cs.extract (r * 10) (r * 10 + 10) = rowB l r := by
  apply Array.ext_getElem?
  intro c
  by_cases hc : c < 10
  · rw [rowB_get l r c hc, Array.getElem?_extract, if_pos (by omega), h r c hr hc]
  · rw [Array.getElem?_eq_none (by simp; omega), Array.getElem?_eq_none (by simp [rowB]; omega)]
theorem isAgg75 (W : World) : (isAgg 75).run Try.prog W = .ok true W := by
  unfold isAgg
  rw [Sem.run_bind, run_underlying u75 W]
  rfl
theorem isAggB (W : World) : (isAgg 4).run Try.prog W = .ok false W := by
  unfold isAgg
  rw [Sem.run_bind, run_underlying Try.underlying4 W]
  rfl
theorem sizeOf75 (W : World) : (sizeOf 75).run Try.prog W = .ok 10 W := by
  cases hq : Try.prog.info? 75 with
  | none => have := info75; rw [hq] at this; cases this
  | some i =>
    have hs : i.size = 10 := by have := info75; rw [hq] at this; simpa using this
    simp [sizeOf, typeInfo, hq, hs]
theorem infoB : (Try.prog.info? 4).map (·.size) = some 1 := by kernel_rfl
theorem sizeOfB (W : World) : (sizeOf 4).run Try.prog W = .ok 1 W := by
  cases hq : Try.prog.info? 4 with
  | none => have := infoB; rw [hq] at this; cases this
  | some i =>
    have hs : i.size = 1 := by have := infoB; rw [hq] at this; simpa using this
    simp [sizeOf, typeInfo, hq, hs]
theorem index77 {l : List Bx} {cs : Array Value} (hs : cs.size = 100) (h : ∀ r c : Nat, r < 10 → c < 10 → cs[r * 10 + c]? = some (.bool (hasP l r c))) (r : Nat) (hr : r < 10) (W : World) :
    (Instr.index 77 (.agg cs) (.int .i64 (r : Int))).run Try.prog W = .ok (.agg (rowB l r)) W := by
  have h1 : (0 : Int) ≤ (r : Int) ∧ (r : Int) < ((10 : Nat) : Int) := by omega
  simp only [Instr.index, asIntOf, Sem.run_bind, Sem.run_pure, Result.andThen_ok, run_underlying u77 W, if_pos h1, sizeOf75, part, isAgg75, Int.toNat_natCast, if_true, rowB_of hs h r hr]
theorem index75 (l : List Bx) (r c : Nat) (hc : c < 10) (W : World) :
    (Instr.index 75 (.agg (rowB l r)) (.int .i64 (c : Int))).run Try.prog W = .ok (.bool (hasP l r c)) W := by
  have h1 : (0 : Int) ≤ (c : Int) ∧ (c : Int) < ((10 : Nat) : Int) := by omega
  simp only [Instr.index, asIntOf, Sem.run_bind, Sem.run_pure, Result.andThen_ok, run_underlying u75 W, if_pos h1, sizeOfB, part, isAggB, Int.toNat_natCast, Nat.mul_one]
  rw [if_neg (by decide)]
  simp only [rowB_get l r c hc, Sem.run_pure]
end Go.Proofs.Ytllafkeheppkjaa
