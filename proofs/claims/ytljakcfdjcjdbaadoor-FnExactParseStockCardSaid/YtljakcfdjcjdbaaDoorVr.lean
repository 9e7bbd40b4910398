/-
  What the laws hand over, as rows of the call's own: copies of slices of ints.
-/
import Derived.Test.YtljakcfdjcjdbaaDoorPb
import Derived.Test.YtljakcfdjcjdbaaDoorIntsE
import Derived.Test.YtljakcfdjcjdbaaDoorOpenG
namespace Go.Proofs.YtljakcfdjcjdbaaDoor
open Go.RowKit
set_option linter.unusedVariables false

theorem Own.ownsRow {w : World} {b : Nat} {t : TypeId} {cs : List Value} (h : Own w b t cs) {size n : Nat} (hl : cs.length = n * size) (hn : n ≤ maxLen) : w.ownsRow 0 t size (.slice (some ⟨b, 0, none⟩) n n) n cs :=
  ⟨hl, .inr ⟨b, n, cs.toArray, rfl, Nat.zero_le _, h, Nat.le_refl _, hn, by simpa using hl, by rw [← hl]; simp⟩⟩
theorem row_lt {w : World} {b size n m : Nat} {e : TypeId} {xs : List Value} (h : w.ownsRow 0 e size (.slice (some ⟨b, 0, none⟩) m m) n xs) : b < w.heap.size := own_block_lt h rfl
theorem info3 : (Tryd.prog.info? 3).map (fun i => (i.zero, i.size, i.bytes)) = some (some (.int .i64 0), 1, 8) := by kernel_rfl
/-- Block b has n cells, none of them frozen. -/
theorem own_noneI (w : World) {g base : Nat} {e : TypeId} (h : w.heap[g]? = some (.cells #[] e (0, 0))) (hb : base ≤ g) : w.ownsRow base e 1 (.slice (some ⟨g, 0, none⟩) 0 0) 0 [] :=
  ⟨rfl, .inr ⟨g, 0, #[], rfl, hb, h, Nat.le_refl _, Nat.zero_le _, rfl, rfl⟩⟩
end Go.Proofs.YtljakcfdjcjdbaaDoor
