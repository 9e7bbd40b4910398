/-
  The contract of laws.heldSortS, and how a row of sorts of the call's own reads.
-/
import Derived.Test.YtebbgdihifihnaaDoorLaw
namespace Go.Proofs.YtebbgdihifihnaaDoor
open Go.RowKit
set_option linter.unusedVariables false

theorem own_sorts {w : World} {base n : Nat} {e : TypeId} {v : Value} {l : List (ByteArray × Int)} (h : w.ownsRow base e 2 v n (flat l)) : ∃ A c, v = .slice A l.length c ∧ n = l.length ∧ SortsIn w 0 A l := by
  have hn : n = l.length := by have := h.1; rw [flat_len] at this; omega
  subst hn
  rcases h.2 with ⟨rfl, h0⟩ | ⟨g, cap, cur, rfl, hg, hh, h1, h2, h3, h4⟩
  · exact ⟨none, 0, by rw [h0], rfl, fun h => absurd h (by omega)⟩
  · refine ⟨_, _, rfl, rfl, fun _ => ⟨g, 0, rfl, Nat.zero_le _, lt_of_heap hh, fun k hk => ?_⟩⟩
    obtain ⟨g1, g2⟩ := flat_get l k hk
    rw [Nat.zero_add, h.cellAt (k * 2) (by omega), h.cellAt (k * 2 + 1) (by omega)]
    exact ⟨g1, g2⟩
theorem own_form_f {w : World} {base n : Nat} {e : TypeId} {v : Value} {l : List (ByteArray × Int)} (h : w.ownsRow base e 2 v n (flat l)) : ∃ A c, v = .slice A l.length c := by
  obtain ⟨A, c, hv, _, _⟩ := own_sorts h
  exact ⟨A, c, hv⟩
theorem own_in_f {w : World} {base n m c : Nat} {e : TypeId} {A : Option Addr} {l : List (ByteArray × Int)} (h : w.ownsRow base e 2 (.slice A m c) n (flat l)) : SortsIn w 0 A l := by
  obtain ⟨A', c', hv, _, hi⟩ := own_sorts h
  injection hv with h1
  subst h1
  exact hi
theorem markF_get : ∀ (n k j : Nat) (h : j < (markF k n).length), (markF k n)[j] = (markT (k + 2 * j), ((k + 2 * j : Nat) : Int) + 1)
  | 0, k, j, h => by simp [markF] at h
  | n + 1, k, 0, h => by simp [markF]
  | n + 1, k, j + 1, h => by
    have h' : j < (markF (k + 2) n).length := by simpa [markF] using h
    have ih := markF_get n (k + 2) j h'
    rw [show k + 2 + 2 * j = k + 2 * (j + 1) from by omega] at ih
    simpa only [markF, List.getElem_cons_succ] using ih

set_option maxRecDepth 100000 in
theorem heldSortS_any (k n : Nat) (A : Option Addr) (c : Nat) (w : World) (hf : SortsIn w 0 A (markF k n)) (h0 : 1 ≤ k) (hn : k + 2 * n ≤ 16777216) :
    Calls Tryd.prog 38 #[.slice A n c, .int .i64 k] w fun e w' => e = .returned (.int .i64 ((k + 2 * n : Nat) : Int)) ∧ Below w.heap.size w w' := by
  have HF := Lib.hid hf; clear hf
  go_enter Tryd.func38, Tryd.ntmps38
  go_wp2
  go_loopw [1, 5] (fun q i wr => ∃ (j q0 : Nat), j ≤ n ∧ i = .int .i64 j ∧ q = .int .i64 q0 ∧ q0 = k + 2 * j ∧ Below w.heap.size w wr) (fun _ i _ => n - (intOf i).toNat)
  case atStart => exact ⟨0, k, Nat.zero_le _, rfl, rfl, rfl, Below.refl _ _⟩
  case round =>
    obtain ⟨j, q0, hj, rfl, rfl, hq, hb⟩ := hrel
    by_cases hlt : j < n
    · obtain ⟨b, off, rfl, _, hbl, hc⟩ := HF.out (by rw [markF_len]; omega)
      obtain ⟨hc0, hc1⟩ := hc j (by rw [markF_len]; exact hlt)
      rw [markF_get, ← hq] at hc0 hc1
      rw [← hb.cell (p := ⟨b, off + j * 2, none⟩) hbl] at hc0
      rw [← hb.cell (p := ⟨b, off + j * 2 + 1, none⟩) hbl] at hc1
      have hbw : b < wr.heap.size := Nat.lt_of_lt_of_le hbl hb.size
      have hx := KeptW.cell hc0 hbw
      have hq1 : 1 ≤ q0 := by omega
      have hq2 : q0 + 2 ≤ 16777216 := by omega
      have HQ := Lib.hid hq
      have hj1 : (j : Int) < (n : Int) := by omega
      have hj0 : (0 : Int) ≤ (j : Int) := by omega
      have HC1 := Lib.hid hc1
      have ht : (!(markT q0).toList == (markT q0).toList) = false := by simp
      clear hc hc0 hc1 hq
      go_wp2_with fail
      refine region_kept wr.heap.size (by kernel_rfl) (by kernel_rfl) ?_
      repeat (go_big_quiet_step ((go_at_call 74; exact kept_call _ (Nat.le_refl _) (markText_any _ _ hq1 (by omega)))))
      refine wpQuiet_nil ?_
      intro w1 hb1
      have hb' : Below w.heap.size w w1 := hb.trans (hb1.mono hb.size)
      have hc1 := (hb1.cell (p := ⟨b, off + j * 2 + 1, none⟩) hbw).trans HC1.out
      have hn1 : ((q0 : Int) + 1 != (q0 : Int) + 1) = false := by simp
      clear hb hb1 hx
      go_wp2
      go_roundw
      case rel => exact ⟨j + 1, q0 + 2, by omega, by go_num, by go_num, by have := HQ.out; omega, hb'⟩
      case measure => simp [intOf]; omega
    · obtain rfl : j = n := by omega
      subst hq
      go_wp2
      go_ret
      exact ⟨rfl, hb⟩
end Go.Proofs.YtebbgdihifihnaaDoor
