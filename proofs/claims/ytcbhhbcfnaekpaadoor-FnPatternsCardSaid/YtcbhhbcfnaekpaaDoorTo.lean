/-
  The contract of laws.toSortS: it answers a new slice that holds the same sorts, and changes nothing that was there.
-/
import Derived.Test.YtcbhhbcfnaekpaaDoorHmd
import Derived.Laws.MakeOwn
namespace Go.Proofs.YtcbhhbcfnaekpaaDoor
open Go.RowKit
set_option linter.unusedVariables false

def flat (f : List (ByteArray × Int)) : List Value := f.flatMap fun x => [.string x.1, .int .i64 x.2]
theorem flat_len (f : List (ByteArray × Int)) : (flat f).length = 2 * f.length := by
  induction f with
  | nil => rfl
  | cons x r ih => simp [flat] at ih ⊢; omega
theorem flat_get : ∀ (f : List (ByteArray × Int)) (k : Nat) (h : k < f.length), (flat f)[k * 2]? = some (.string f[k].1) ∧ (flat f)[k * 2 + 1]? = some (.int .i64 f[k].2)
  | x :: r, 0, _ => ⟨rfl, rfl⟩
  | x :: r, k + 1, h => by
    have ih := flat_get r k (by simpa using h)
    have e : flat (x :: r) = .string x.1 :: .int .i64 x.2 :: flat r := rfl
    rw [e, show (k + 1) * 2 = k * 2 + 1 + 1 from by omega]
    simpa using ih
theorem flat_snoc (f : List (ByteArray × Int)) (x : ByteArray × Int) : flat (f ++ [x]) = flat f ++ [.string x.1, .int .i64 x.2] := by simp [flat]

theorem lt_of_heap {w : World} {b : Nat} {o : Obj} (h : w.heap[b]? = some o) : b < w.heap.size := by
  rcases Nat.lt_or_ge b w.heap.size with h1 | h1
  · exact h1
  · rw [Array.getElem?_eq_none h1] at h; cases h
theorem cell_of_heap {w : World} {b : Nat} {cs : Array Value} {t : TypeId} {fr : Nat × Nat} (h : w.heap[b]? = some (.cells cs t fr)) (i : Nat) : w.cell? ⟨b, i, none⟩ = cs[i]? := by simp [World.cell?, h]
theorem free_of_heap {w : World} {b : Nat} {cs : Array Value} {t : TypeId} (h : w.heap[b]? = some (.cells cs t (0, 0))) (i : Nat) : w.frozen? ⟨b, i, none⟩ = false := by simp [World.frozen?, h]
theorem heap_set {w : World} {b i : Nat} {cs : Array Value} {t : TypeId} {fr : Nat × Nat} (h : w.heap[b]? = some (.cells cs t fr)) (v : Value) : (w.setCell ⟨b, i, none⟩ v).heap[b]? = some (.cells (cs.setIfInBounds i v) t fr) := by
  simp [World.setCell, Array.getElem?_modify, h]
theorem heap_new (w : World) (o : Obj) : (w.alloc o).heap[w.heap.size]? = some o := by
  show (w.heap.push o)[w.heap.size]? = _
  simp
end Go.Proofs.YtcbhhbcfnaekpaaDoor
