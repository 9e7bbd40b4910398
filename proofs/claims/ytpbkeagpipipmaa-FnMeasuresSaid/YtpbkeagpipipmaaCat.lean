/-
  The contracts of the instances of slices.Grow (at the nil slice) and of slices.Concat (over parts that are not nil): a new row that holds the parts one after the other.
-/
import Derived.Test.YtpbkeagpipipmaaMxf
import Derived.Lib.AppendZerosOnto
import Derived.Lib.SliceRun
namespace Go.Proofs.Ytpbkeagpipipmaa.S1
open Go.RowKit
set_option linter.unusedVariables false

def Grown0 (w w' : World) (e : Ending) : Prop := ∃ v, e = .returned v ∧ Below w.heap.size w w' ∧ w'.ownsRow w.heap.size 91 2 v 0 []

/-- A part that is handed to slices.Concat: where it lies, its length and room, its cells. -/
structure Part3 where
  a : Addr
  m : Nat
  c : Nat
  xs : List Value
def Part3.val (p : Part3) : Value := .slice (some p.a) p.m p.c
/-- The part's cells are there. -/
def Part3.Reads (p : Part3) (w : World) : Prop := p.xs.length = p.m * 2 ∧ p.a.block < w.heap.size ∧ (∀ j u, p.xs[j]? = some u → w.cell? (p.a.add j) = some u) ∧ ∀ u ∈ p.xs, u.oneCell' = true
theorem block_add (a : Addr) (n : Nat) : (a.add n).block = a.block := by unfold Addr.add; split <;> rfl
theorem Part3.Reads.below {p : Part3} {w w' : World} {B : Nat} (h : p.Reads w) (hb : Below B w w') (hB : w.heap.size ≤ B) : p.Reads w' :=
  ⟨h.1, Nat.lt_of_lt_of_le h.2.1 hb.size, fun j u hu => (hb.cell (by rw [block_add]; have := h.2.1; omega)).trans (h.2.2.1 j u hu), h.2.2.2⟩
def lens : List Part3 → Nat
  | [] => 0
  | p :: r => p.m + lens r
def allXs : List Part3 → List Value
  | [] => []
  | p :: r => p.xs ++ allXs r
theorem lens_append (a b : List Part3) : lens (a ++ b) = lens a + lens b := by
  induction a with
  | nil => simp [lens]
  | cons x a ih => simp only [List.cons_append, lens, ih]; omega
theorem allXs_append (a b : List Part3) : allXs (a ++ b) = allXs a ++ allXs b := by
  induction a with
  | nil => simp [allXs]
  | cons x a ih => simp only [List.cons_append, allXs, ih, List.append_assoc]
theorem lens_snoc (l : List Part3) (k : Nat) (h : k < l.length) : lens (l.take (k + 1)) = lens (l.take k) + l[k].m := by
  rw [List.take_succ_eq_append_getElem h, lens_append]; simp [lens]
theorem allXs_snoc (l : List Part3) (k : Nat) (h : k < l.length) : allXs (l.take (k + 1)) = allXs (l.take k) ++ l[k].xs := by
  rw [List.take_succ_eq_append_getElem h, allXs_append]; simp [allXs]
theorem lens_take_le (l : List Part3) : ∀ k, lens (l.take k) ≤ lens l := by
  intro k
  have h : lens l = lens (l.take k) + lens (l.drop k) := by rw [← lens_append, List.take_append_drop]
  omega

/-- The answer: one row of the call's own with all cells. -/
def CatTo (ps : List Part3) (w w' : World) (e : Ending) : Prop := ∃ v, e = .returned v ∧ Below w.heap.size w w' ∧ w'.ownsRow w.heap.size 91 2 v (lens ps) (allXs ps)

end Go.Proofs.Ytpbkeagpipipmaa.S1
