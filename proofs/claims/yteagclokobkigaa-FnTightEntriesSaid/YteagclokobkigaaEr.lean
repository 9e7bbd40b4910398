/-
  What the laws hand over, as rows of the call's own: copies of slices of entries; the marks of entries.
-/
import Derived.Test.YteagclokobkigaaVr
import Derived.Test.YteagclokobkigaaVb
namespace Go.Proofs.Yteagclokobkigaa
open Go.RowKit
set_option linter.unusedVariables false

theorem own_en {w : World} {base n : Nat} {e : TypeId} {v : Value} {l : List En} (h : w.ownsRow base e 3 v n (flatEn l)) : ∃ A c, v = .slice A l.length c ∧ n = l.length ∧ EnsIn w A l := by
  have hn : n = l.length := by have := h.1; rw [flatEn_len] at this; omega
  subst hn
  rcases h.2 with ⟨rfl, h0⟩ | ⟨g, cap, cur, rfl, hg, hh, h1, h2, h3, h4⟩
  · exact ⟨none, 0, by rw [h0], rfl, fun h => absurd h (by omega)⟩
  · refine ⟨_, _, rfl, rfl, fun _ => ⟨g, 0, rfl, lt_of_heap hh, fun k hk => ?_⟩⟩
    have hgt := flatEn_get l k hk
    rw [Nat.zero_add, h.cellAt (k * 3) (by omega), h.cellAt (k * 3 + 1) (by omega), h.cellAt (k * 3 + 2) (by omega)]
    exact hgt
theorem own_in_en {w : World} {base n m c : Nat} {e : TypeId} {A : Option Addr} {l : List En} (h : w.ownsRow base e 3 (.slice A m c) n (flatEn l)) : EnsIn w A l := by
  obtain ⟨A', c', hv, _, hi⟩ := own_en h
  injection hv with h1
  subst h1
  exact hi
theorem own_form_en {w : World} {base n : Nat} {e : TypeId} {v : Value} {l : List En} (h : w.ownsRow base e 3 v n (flatEn l)) : ∃ A c, v = .slice A l.length c := by
  obtain ⟨A, c, h1, _⟩ := own_en h
  exact ⟨A, c, h1⟩
/-- Block b has n cells, none of them frozen. -/
def HasRow (w : World) (b : Nat) (t : TypeId) (n : Nat) : Prop := ∃ cur : Array Value, w.heap[b]? = some (.cells cur t (0, 0)) ∧ cur.size = n
theorem HasRow.at_ {w : World} {b n j : Nat} {t : TypeId} (h : HasRow w b t n) (hj : j < n) : (∃ u, w.cell? ⟨b, j, none⟩ = some u) ∧ w.frozen? ⟨b, j, none⟩ = false := by
  obtain ⟨cur, h1, h2⟩ := h
  exact ⟨⟨_, (cell_of_heap h1 j).trans (Array.getElem?_eq_getElem (by omega))⟩, free_of_heap h1 j⟩
theorem HasRow.set {w : World} {b n : Nat} {t : TypeId} (h : HasRow w b t n) (j : Nat) (u : Value) : HasRow (w.setCell ⟨b, j, none⟩ u) b t n := by
  obtain ⟨cur, h1, h2⟩ := h
  exact ⟨_, heap_set h1 u, by simpa using h2⟩

/-- Marked entries from k on. -/
def markEn (k n : Nat) : List En := (List.range n).map fun i => ⟨((k + 3 * i : Nat) : Int), ((k + 3 * i + 1 : Nat) : Int), ((k + 3 * i + 2 : Nat) : Int)⟩
theorem markEn_len (k n : Nat) : (markEn k n).length = n := by simp [markEn]
theorem markEn_get (k n i : Nat) (h : i < (markEn k n).length) : (markEn k n)[i] = ⟨((k + 3 * i : Nat) : Int), ((k + 3 * i + 1 : Nat) : Int), ((k + 3 * i + 2 : Nat) : Int)⟩ := by simp [markEn]
theorem markEn_succ (k j : Nat) : markEn k (j + 1) = markEn k j ++ [⟨((k + 3 * j : Nat) : Int), ((k + 3 * j + 1 : Nat) : Int), ((k + 3 * j + 2 : Nat) : Int)⟩] := by simp [markEn, List.range_succ]
end Go.Proofs.Yteagclokobkigaa
