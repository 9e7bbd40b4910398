/-
  The contracts of the laws' own helpers on slices of strings: laws.eqStringS, laws.markStringS, laws.heldStringS.
-/
import Derived.Test.YtiihhilhiknckaaGreatDoorLaw
namespace Go.Proofs.YtiihhilhiknckaaGreatDoor
open Go.RowKit
set_option linter.unusedVariables false

def strs (l : List ByteArray) : List Value := l.map fun s => .string s
/-- A slice of strings at A reads as l. -/
def StrsIn (w : World) (A : Option Addr) (l : List ByteArray) : Prop :=
  0 < l.length → ∃ b off, A = some ⟨b, off, none⟩ ∧ b < w.heap.size ∧ ∀ k (h : k < l.length), w.cell? ⟨b, off + k, none⟩ = some (.string l[k])
theorem StrsIn.below {w w' : World} {B : Nat} {A : Option Addr} {l : List ByteArray} (h : StrsIn w A l) (hb : Below B w w') (hB : w.heap.size ≤ B) : StrsIn w' A l := by
  intro hn
  obtain ⟨b, off, rfl, h2, h3⟩ := h hn
  refine ⟨b, off, rfl, Nat.lt_of_lt_of_le h2 hb.size, fun k hk => ?_⟩
  rw [hb.cell (by show b < B; omega)]
  exact h3 k hk
theorem own_strs {w : World} {base n : Nat} {e : TypeId} {v : Value} {l : List ByteArray} (h : w.ownsRow base e 1 v n (strs l)) : ∃ A c, v = .slice A l.length c ∧ n = l.length ∧ StrsIn w A l := by
  have hn : n = l.length := by have := h.1; simp [strs] at this; omega
  subst hn
  rcases h.2 with ⟨rfl, h0⟩ | ⟨g, cap, cur, rfl, hg, hh, h1, h2, h3, h4⟩
  · exact ⟨none, 0, by rw [h0], rfl, fun h => absurd h (by omega)⟩
  · refine ⟨_, _, rfl, rfl, fun _ => ⟨g, 0, rfl, lt_of_heap hh, fun k hk => ?_⟩⟩
    rw [h.cellAt (0 + k) (by omega)]
    simp [strs, hk]
theorem own_form_s {w : World} {base n : Nat} {e : TypeId} {v : Value} {l : List ByteArray} (h : w.ownsRow base e 1 v n (strs l)) : ∃ A c, v = .slice A l.length c := by
  obtain ⟨A, c, hv, _, _⟩ := own_strs h
  exact ⟨A, c, hv⟩
theorem own_in_s {w : World} {base n m c : Nat} {e : TypeId} {A : Option Addr} {l : List ByteArray} (h : w.ownsRow base e 1 (.slice A m c) n (strs l)) : StrsIn w A l := by
  obtain ⟨A', c', hv, _, hi⟩ := own_strs h
  injection hv with h1
  subst h1
  exact hi

/-- The texts of the marks k, k+1, .. -/
def marksT (k n : Nat) : List ByteArray := (List.range n).map fun i => markT (k + i)
theorem marksT_len (k n : Nat) : (marksT k n).length = n := by simp [marksT]
theorem marksT_get (k n i : Nat) (h : i < (marksT k n).length) : (marksT k n)[i] = markT (k + i) := by simp [marksT]
theorem marksT_succ (k j : Nat) : marksT k (j + 1) = marksT k j ++ [markT (k + j)] := by simp [marksT, List.range_succ]

end Go.Proofs.YtiihhilhiknckaaGreatDoor
