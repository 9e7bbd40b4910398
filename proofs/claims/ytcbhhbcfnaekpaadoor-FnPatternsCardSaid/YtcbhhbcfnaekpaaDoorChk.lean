/-
  The contracts of the small checks on numbers: spec.l1All, spec.l1Most, spec.biStock, impl.isStockOfTypes; of laws.toIntS: each answers what the plain words here say and changes nothing that was there.
-/
import Derived.Test.YtcbhhbcfnaekpaaDoorBil
import Derived.Laws.OwnMore
namespace Go.Proofs.YtcbhhbcfnaekpaaDoor
open Go.RowKit
set_option linter.unusedVariables false

def inB (lo hi a : Int) : Bool := decide (lo ≤ a) && decide (a ≤ hi)
def allB (lo hi : Int) (l : List Int) : Bool := l.all (inB lo hi)
theorem allB_snoc (lo hi : Int) (l : List Int) (a : Int) : allB lo hi (l ++ [a]) = (allB lo hi l && inB lo hi a) := by simp [allB]
theorem allB_no {lo hi : Int} {l : List Int} {k : Nat} (h : k < l.length) (hf : inB lo hi l[k] = false) : allB lo hi l = false := by
  unfold allB
  rw [List.all_eq_false]
  exact ⟨l[k], List.getElem_mem h, by simp [hf]⟩
theorem allB_at {lo hi : Int} {l : List Int} {k : Nat} (h : k < l.length) (ha : allB lo hi l = true) : lo ≤ l[k] ∧ l[k] ≤ hi := by
  have := List.all_eq_true.1 ha _ (List.getElem_mem h)
  simpa [inB] using this
theorem stockB_eq (f : List (ByteArray × Int)) (st : List Int) : stockB f st = (decide (st.length = f.length) && allB 0 100000 st) := rfl
theorem stock_parts {f : List (ByteArray × Int)} {st : List Int} (h : stockB f st = true) : st.length = f.length ∧ allB 0 100000 st = true := by
  rw [stockB_eq] at h
  simpa [Bool.and_eq_true] using h
theorem in_is (a b c : Int) (B : Bool) (w : World) (h : Hid (inB b c a = B)) :
    Calls Tryd.prog 61 #[.int .i64 a, .int .i64 b, .int .i64 c] w fun e w' => e = .returned (.bool B) ∧ w = w' := by
  have := in_any a b c w; rw [← h.out]; exact this

theorem l1Most_any (a b : Int) (w : World) :
    Calls Tryd.prog 95 #[.int .i64 a, .int .i64 b] w fun e w' => e = .returned (.int .i64 (if b < a then a else b)) ∧ w = w' := by
  by_cases h : b < a
  · go_enter Tryd.func95, Tryd.ntmps95
    go_wp2
    go_ret
    exact ⟨rfl, rfl⟩
  · go_enter Tryd.func95, Tryd.ntmps95
    go_wp2
    go_ret
    exact ⟨rfl, rfl⟩

theorem run_makeInt (n : Nat) (hn : n ≤ 1048576) (w : World) :
    (Instr.makeSlice 28 (.int .i64 (n : Int)) (.int .i64 (n : Int))).run Tryd.prog w = .ok (.slice (some ⟨w.heap.size, 0, none⟩) n n) (w.alloc (.cells (madeCells #[.int .i64 0] (n * 1)) 3)) := by
  obtain ⟨i0, hi, hz0, hz1, hz2⟩ := info_parts info3
  have h := run_make (P := Tryd.prog) w 28 3 i0 _ Tryd.underlying28 hi hz0 .i64 .i64 (n : Int) (n : Int) (by omega) (Int.le_refl _) (by rw [hz2]; omega) (by omega)
  rw [hz1, Int.toNat_natCast] at h
  exact h
theorem made_own (n : Nat) (w : World) : Own (w.alloc (.cells (madeCells #[.int .i64 0] (n * 1)) 3)) w.heap.size 3 (intsZ (cntL n [])) := by
  unfold Own
  rw [heap_new, cntL_nil, Nat.mul_one, ← toList_madeCells_one]
theorem ints_of_marked {w : World} {b : Nat} {e : TypeId} {l : List Int} (h : Marked w b e l.length (intsZ l)) : Own w b e (intsZ l) := by
  obtain ⟨cur, h1, h2, h3⟩ := h
  have : cur = (intsZ l).toArray := by
    apply Array.ext'
    rw [← h3, List.take_of_length_le (by rw [intsZ_len]; simpa using Nat.le_of_eq h2)]
  subst this
  exact h1

end Go.Proofs.YtcbhhbcfnaekpaaDoor
