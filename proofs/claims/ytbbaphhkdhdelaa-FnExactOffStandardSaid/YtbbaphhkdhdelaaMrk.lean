/-
  The contract of laws.markStrikeS on a row of the call's own: it answers the next mark and writes into that row alone.
-/
import Derived.Test.YtbbaphhkdhdelaaSk
namespace Go.Proofs.Ytbbaphhkdhdelaa
open Go.RowKit
set_option linter.unusedVariables false

/-- Block b has n cells, none of them frozen. -/
def HasRow (w : World) (b : Nat) (t : TypeId) (n : Nat) : Prop := ∃ cur : Array Value, w.heap[b]? = some (.cells cur t (0, 0)) ∧ cur.size = n
theorem HasRow.at_ {w : World} {b n j : Nat} {t : TypeId} (h : HasRow w b t n) (hj : j < n) : (∃ u, w.cell? ⟨b, j, none⟩ = some u) ∧ w.frozen? ⟨b, j, none⟩ = false := by
  obtain ⟨cur, h1, h2⟩ := h
  exact ⟨⟨_, (cell_of_heap h1 j).trans (Array.getElem?_eq_getElem (by omega))⟩, free_of_heap h1 j⟩
theorem HasRow.set {w : World} {b n : Nat} {t : TypeId} (h : HasRow w b t n) (j : Nat) (u : Value) : HasRow (w.setCell ⟨b, j, none⟩ u) b t n := by
  obtain ⟨cur, h1, h2⟩ := h
  exact ⟨_, heap_set h1 u, by simpa using h2⟩
theorem HasRow.of_own {w : World} {b : Nat} {t : TypeId} {cs : List Value} (h : Own w b t cs) : HasRow w b t cs.length := ⟨_, h, by simp⟩

set_option maxRecDepth 100000 in
set_option maxHeartbeats 1000000 in
theorem markStrikeS_any (k : Int) (n b c : Nat) (w : World) (h : HasRow w b 25 (n * 5)) (h0 : 0 ≤ k) (hn : k + 5 * (n : Int) ≤ 16777216) :
    Calls Try.prog 34 #[.slice (some ⟨b, 0, none⟩) n c, .int .i64 k] w fun e w' => e = .returned (.int .i64 (k + 5 * (n : Int))) ∧ w.grownBy w' (some b) := by
  have HH := Lib.hid h; clear h
  go_enter Try.func34, Try.ntmps34
  go_wp2
  go_loopw [1, 5] (fun q i wr => ∃ (j : Nat) (q0 : Int), j ≤ n ∧ i = .int .i64 j ∧ q = .int .i64 q0 ∧ q0 = k + 5 * (j : Int) ∧ HasRow wr b 25 (n * 5) ∧ w.grownBy wr (some b)) (fun _ i _ => n - (intOf i).toNat)
  case atStart => exact ⟨0, k, Nat.zero_le _, rfl, rfl, by simp, HH.out, World.grownBy.refl _ _⟩
  case round =>
    obtain ⟨j, q0, hj, rfl, rfl, hq, hr, hg⟩ := hrel
    have HQ := Lib.hid hq
    by_cases hlt : j < n
    · have hq1 : q0 + 5 ≤ 16777216 := by omega
      have hq2 : 0 ≤ q0 := by omega
      obtain ⟨⟨u0, e0⟩, f0⟩ := hr.at_ (j := j * 5) (by omega)
      obtain ⟨⟨u1, e1⟩, f1⟩ := hr.at_ (j := j * 5 + 1) (by omega)
      obtain ⟨⟨u2, e2⟩, f2⟩ := hr.at_ (j := j * 5 + 2) (by omega)
      obtain ⟨⟨u3, e3⟩, f3⟩ := hr.at_ (j := j * 5 + 3) (by omega)
      obtain ⟨⟨u4, e4⟩, f4⟩ := hr.at_ (j := j * 5 + 4) (by omega)
      have HG := Lib.hid (grown_set (grown_set (grown_set (grown_set (grown_set hg (j * 5) (.int .i64 q0)) (j * 5 + 1) (.int .i64 (q0 + 1))) (j * 5 + 2) (.int .i64 (q0 + 1 + 1))) (j * 5 + 3) (.int .i64 (q0 + 1 + 1 + 1))) (j * 5 + 4) (.int .i64 (q0 + 1 + 1 + 1 + 1)))
      have HR := Lib.hid (((((hr.set (j * 5) (.int .i64 q0)).set (j * 5 + 1) (.int .i64 (q0 + 1))).set (j * 5 + 2) (.int .i64 (q0 + 1 + 1))).set (j * 5 + 3) (.int .i64 (q0 + 1 + 1 + 1))).set (j * 5 + 4) (.int .i64 (q0 + 1 + 1 + 1 + 1)))
      clear hr hg hq
      go_wp2
      go_roundw
      case rel => exact ⟨j + 1, _, by omega, by go_num, rfl, by have := HQ.out; omega, HR.out, HG.out⟩
      case measure => simp [intOf]; omega
    · obtain rfl : j = n := by omega
      subst hq
      go_wp2
      go_ret
      exact ⟨rfl, hg⟩
end Go.Proofs.Ytbbaphhkdhdelaa
