/-
  The contract of laws.heldSortS, and how a row of sorts of the call's own reads.
-/
import Derived.Test.YtcbhhbcfnaekpaaDoorLaw
namespace Go.Proofs.YtcbhhbcfnaekpaaDoor
open Go.RowKit
set_option linter.unusedVariables false

theorem own_sorts {w : World} {base n : Nat} {e : TypeId} {v : Value} {l : List (ByteArray × Int)} (h : w.ownsRow base e 2 v n (flat l)) : ∃ A c, v = .slice A l.length c ∧ n = l.length ∧ SortsIn w 0 A l := by
  have hn : n = l.length := by have := h.1; rw [flat_len] at this; omega
  subst hn
  rcases h.2 with ⟨rfl, h0⟩ | ⟨g, cap, cur, rfl, hg, hh, h1, h2, h3, h4⟩
  · exact ⟨none, 0, by rw [h0], rfl, fun h => absurd h (by omega)⟩
  · refine ⟨_, _, rfl, rfl, fun _ => ⟨g, 0, rfl, Nat.zero_le _, lt_of_heap hh, fun k hk => ?_⟩⟩
    obtain ⟨g1, g2⟩ := flat_get l k hk
    rw [Nat.zero_add, h.cellAt (k * 2) (by omega), h.cellAt (k * 2 + 1) (by omega)]
    exact ⟨g1, g2⟩
theorem own_form_f {w : World} {base n : Nat} {e : TypeId} {v : Value} {l : List (ByteArray × Int)} (h : w.ownsRow base e 2 v n (flat l)) : ∃ A c, v = .slice A l.length c := by
  obtain ⟨A, c, hv, _, _⟩ := own_sorts h
  exact ⟨A, c, hv⟩
theorem own_in_f {w : World} {base n m c : Nat} {e : TypeId} {A : Option Addr} {l : List (ByteArray × Int)} (h : w.ownsRow base e 2 (.slice A m c) n (flat l)) : SortsIn w 0 A l := by
  obtain ⟨A', c', hv, _, hi⟩ := own_sorts h
  injection hv with h1
  subst h1
  exact hi
theorem markF_get : ∀ (n k j : Nat) (h : j < (markF k n).length), (markF k n)[j] = (markT (k + 2 * j), ((k + 2 * j : Nat) : Int) + 1)
  | 0, k, j, h => by simp [markF] at h
  | n + 1, k, 0, h => by simp [markF]
  | n + 1, k, j + 1, h => by
    have h' : j < (markF (k + 2) n).length := by simpa [markF] using h
    have ih := markF_get n (k + 2) j h'
    rw [show k + 2 + 2 * j = k + 2 * (j + 1) from by omega] at ih
    simpa only [markF, List.getElem_cons_succ] using ih

end Go.Proofs.YtcbhhbcfnaekpaaDoor
