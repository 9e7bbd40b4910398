/-
  What the laws hand over, as rows of the call's own: copies of slices of ints.
-/
import Derived.Test.YteagclokobkigaaEb
import Derived.Test.YteagclokobkigaaIntsE
import Derived.Test.YteagclokobkigaaOpenG
namespace Go.Proofs.Yteagclokobkigaa
open Go.RowKit
set_option linter.unusedVariables false

theorem Own.ownsRow {w : World} {b : Nat} {t : TypeId} {cs : List Value} (h : Own w b t cs) {size n : Nat} (hl : cs.length = n * size) (hn : n ≤ maxLen) : w.ownsRow 0 t size (.slice (some ⟨b, 0, none⟩) n n) n cs :=
  ⟨hl, .inr ⟨b, n, cs.toArray, rfl, Nat.zero_le _, h, Nat.le_refl _, hn, by simpa using hl, by rw [← hl]; simp⟩⟩
theorem row_lt {w : World} {b size n m : Nat} {e : TypeId} {xs : List Value} (h : w.ownsRow 0 e size (.slice (some ⟨b, 0, none⟩) m m) n xs) : b < w.heap.size := own_block_lt h rfl
theorem info3 : (Try.prog.info? 3).map (fun i => (i.zero, i.size, i.bytes)) = some (some (.int .i64 0), 1, 8) := by kernel_rfl
theorem run_makeInt (n : Nat) (hn : n ≤ 1048576) (w : World) :
    (Instr.makeSlice 27 (.int .i64 (n : Int)) (.int .i64 (n : Int))).run Try.prog w = .ok (.slice (some ⟨w.heap.size, 0, none⟩) n n) (w.alloc (.cells (madeCells #[.int .i64 0] (n * 1)) 3)) := by
  obtain ⟨i0, hi, hz0, hz1, hz2⟩ := info_parts info3
  have h := run_make (P := Try.prog) w 27 3 i0 _ Try.underlying27 hi hz0 .i64 .i64 (n : Int) (n : Int) (by omega) (Int.le_refl _) (by rw [hz2]; omega) (by omega)
  rw [hz1, Int.toNat_natCast] at h
  exact h
/-- Block b has n cells, none of them frozen. -/
theorem own_noneI (w : World) {g base : Nat} {e : TypeId} (h : w.heap[g]? = some (.cells #[] e (0, 0))) (hb : base ≤ g) : w.ownsRow base e 1 (.slice (some ⟨g, 0, none⟩) 0 0) 0 [] :=
  ⟨rfl, .inr ⟨g, 0, #[], rfl, hb, h, Nat.le_refl _, Nat.zero_le _, rfl, rfl⟩⟩
end Go.Proofs.Yteagclokobkigaa
