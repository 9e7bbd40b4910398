/-
  The contracts of the laws' own helpers on slices of integers and of sorts: laws.eqIntS, laws.markIntS, laws.heldIntS, laws.markText, laws.markSortS.
-/
import Derived.Test.YtiihhilhiknckaaGreatDoorSow
import Derived.Test.YtiihhilhiknckaaGreatDoorKept
namespace Go.Proofs.YtiihhilhiknckaaGreatDoor
open Go.RowKit
set_option linter.unusedVariables false

def intsZ (l : List Int) : List Value := l.map fun i => .int .i64 i
theorem ints_Z (l : List Nat) : ints l = intsZ (l.map fun i : Nat => (i : Int)) := by simp [ints, intsZ]
/-- A slice of ints at A reads as l. -/
def IntsIn (w : World) (A : Option Addr) (l : List Int) : Prop :=
  0 < l.length → ∃ b off, A = some ⟨b, off, none⟩ ∧ b < w.heap.size ∧ ∀ k (h : k < l.length), w.cell? ⟨b, off + k, none⟩ = some (.int .i64 l[k])
theorem IntsIn.below {w w' : World} {B : Nat} {A : Option Addr} {l : List Int} (h : IntsIn w A l) (hb : Below B w w') (hB : w.heap.size ≤ B) : IntsIn w' A l := by
  intro hn
  obtain ⟨b, off, rfl, h2, h3⟩ := h hn
  refine ⟨b, off, rfl, Nat.lt_of_lt_of_le h2 hb.size, fun k hk => ?_⟩
  rw [hb.cell (by show b < B; omega)]
  exact h3 k hk
theorem own_ints {w : World} {base n : Nat} {e : TypeId} {v : Value} {l : List Int} (h : w.ownsRow base e 1 v n (intsZ l)) : ∃ A c, v = .slice A l.length c ∧ n = l.length ∧ IntsIn w A l := by
  have hn : n = l.length := by have := h.1; simp [intsZ] at this; omega
  subst hn
  rcases h.2 with ⟨rfl, h0⟩ | ⟨g, cap, cur, rfl, hg, hh, h1, h2, h3, h4⟩
  · exact ⟨none, 0, by rw [h0], rfl, fun h => absurd h (by omega)⟩
  · refine ⟨_, _, rfl, rfl, fun _ => ⟨g, 0, rfl, lt_of_heap hh, fun k hk => ?_⟩⟩
    rw [h.cellAt (0 + k) (by omega)]
    simp [intsZ, hk]

/-- The marks k, k+1, .. -/
def marks (k : Int) (n : Nat) : List Int := (List.range n).map fun i : Nat => k + (i : Int)
theorem marks_len (k : Int) (n : Nat) : (marks k n).length = n := by simp [marks]
theorem marks_get (k : Int) (n i : Nat) (h : i < (marks k n).length) : (marks k n)[i] = k + (i : Int) := by simp [marks]

theorem grown_set {w w' : World} {g : Nat} (h : w.grownBy w' (some g)) (j : Nat) (u : Value) : w.grownBy (w'.setCell ⟨g, j, none⟩ u) (some g) :=
  ⟨h.os, h.tape, h.output, by simpa [World.setCell] using h.size, fun i hi hne => (Below.heap_setCell w' _ u i (by rintro rfl; exact hne rfl)).trans (h.block i hi hne)⟩
theorem grown_below {w w1 w' : World} {row : Option Nat} (h : w.grownBy w1 row) (hb : Below w1.heap.size w1 w') : w.grownBy w' row :=
  ⟨hb.os.trans h.os, hb.tape.trans h.tape, hb.output.trans h.output, Nat.le_trans h.size hb.size, fun i hi hne => (hb.block i (Nat.lt_of_lt_of_le hi h.size)).trans (h.block i hi hne)⟩

/-- The first j cells of block g hold the marks. -/
def Marked (w : World) (g : Nat) (e : TypeId) (cap : Nat) (l : List Value) : Prop := ∃ cur : Array Value, w.heap[g]? = some (.cells cur e (0, 0)) ∧ cur.size = cap ∧ cur.toList.take l.length = l
theorem Marked.at_ {w : World} {g cap j : Nat} {e : TypeId} {l : List Value} (h : Marked w g e cap l) (hj : j < cap) : (∃ u, w.cell? ⟨g, j, none⟩ = some u) ∧ w.frozen? ⟨g, j, none⟩ = false := by
  obtain ⟨cur, h1, h2, _⟩ := h
  exact ⟨⟨_, (cell_of_heap h1 j).trans (Array.getElem?_eq_getElem (by omega))⟩, free_of_heap h1 j⟩
theorem Marked.step {w : World} {g cap : Nat} {e : TypeId} {l : List Value} (h : Marked w g e cap l) (hj : l.length < cap) (u : Value) : Marked (w.setCell ⟨g, l.length, none⟩ u) g e cap (l ++ [u]) := by
  obtain ⟨cur, h1, h2, h3⟩ := h
  refine ⟨_, heap_set h1 u, by simpa using h2, ?_⟩
  rw [List.length_append, Array.toList_setIfInBounds, show l.length + [u].length = l.length + 1 from rfl, List.take_succ_eq_append_getElem (by simp; omega), List.take_set_of_le (Nat.le_refl _), h3]
  simp
theorem Marked.below {w w' : World} {g cap : Nat} {e : TypeId} {l : List Value} (h : Marked w g e cap l) (hb : Below w.heap.size w w') : Marked w' g e cap l := by
  obtain ⟨cur, h1, h2⟩ := h
  exact ⟨cur, (hb.block g (lt_of_heap h1)).trans h1, h2⟩
theorem marks_succ (k : Int) (j : Nat) : marks k (j + 1) = marks k j ++ [k + (j : Int)] := by simp [marks, List.range_succ]

end Go.Proofs.YtiihhilhiknckaaGreatDoor
