/-
  The contracts of impl.appendNumbers and impl.MissingSums.
-/
import Derived.Test.YthhmbcgamcbfdaaDoorVj
namespace Go.Proofs.YthhmbcgamcbfdaaDoor
open Go.RowKit Go.Shelf
set_option linter.unusedVariables false

/-- The numbers from a on that are less than b. -/
def numsT (a : Nat) : Nat → List Int
  | 0 => []
  | k + 1 => numsT a k ++ [((a + k : Nat) : Int)]
theorem numsT_len (a : Nat) : ∀ k, (numsT a k).length = k
  | 0 => rfl
  | k + 1 => by rw [numsT, List.length_append, numsT_len a k]; rfl
theorem ints_app (l m : List Int) : intsZ (l ++ m) = intsZ l ++ intsZ m := by simp [intsZ]

theorem grown_chain {w u u' : World} {r r2 : Option Nat} (h : w.grownBy u r) (h2 : u.grownBy u' r2) (hr : ∀ q, r2 = some q → r = some q ∨ w.heap.size ≤ q) : w.grownBy u' r :=
  ⟨h2.os.trans h.os, h2.tape.trans h.tape, h2.output.trans h.output, Nat.le_trans h.size h2.size, fun i hi hne => (h2.block i (Nat.lt_of_lt_of_le hi h.size) (fun e => by
    rcases hr i e.symm with h3 | h3
    · exact hne h3.symm
    · omega)).trans (h.block i hi hne)⟩
/-- Behind the sums that have come: the next number, and what is missing below it. -/
def missF : List Sum4 → Nat × List Int := fun pre => pre.foldl (fun s x => (x.val + 1, s.2 ++ numsT s.1 (x.val - s.1))) (0, [])
theorem missF_snoc (pre : List Sum4) (x : Sum4) : missF (pre ++ [x]) = (x.val + 1, (missF pre).2 ++ numsT (missF pre).1 (x.val - (missF pre).1)) := by simp [missF]
theorem missF_nil : missF [] = (0, []) := rfl
theorem missF_le (pre : List Sum4) : (missF pre).1 ≤ 401 := by
  rcases List.eq_nil_or_concat pre with rfl | ⟨q, x, rfl⟩
  · exact Nat.zero_le _
  · rw [List.concat_eq_append, missF_snoc]; have := x.le; show x.val + 1 ≤ 401; omega
theorem missF_len : ∀ (m : Nat) (pre : List Sum4), pre.length = m → (missF pre).2.length ≤ 401 * m
  | 0, pre, h => by rw [List.length_eq_zero_iff.1 h]; exact Nat.zero_le _
  | m + 1, pre, h => by
    rcases List.eq_nil_or_concat pre with rfl | ⟨q, x, rfl⟩
    · simp at h
    · rw [List.concat_eq_append, missF_snoc]
      have h1 : q.length = m := by simpa using h
      have := missF_len m q h1
      have := x.le
      simp only [List.length_append, numsT_len]; omega
/-- What is missing from a number on. -/
theorem missT_nums {l : List Int} {a : Nat} : ∀ k : Nat, (∀ j, a ≤ j → j < a + k → ¬ Can l (j : Int)) → missT l (a + k) = missT l a ++ numsT a k
  | 0, _ => by simp [numsT]
  | k + 1, h => by
    rw [show a + (k + 1) = (a + k) + 1 from rfl, missT_no (h (a + k) (by omega) (by omega)), missT_nums k (fun j h1 h2 => h j h1 (by omega)), numsT, List.append_assoc]
theorem missF_sums {l : List Int} (hp : Pos l) : ∀ n : Nat, n ≤ 401 → (missF (sumL (stT l (rep4 l) l.length) n)).1 ≤ n ∧ (∀ j, (missF (sumL (stT l (rep4 l) l.length) n)).1 ≤ j → j < n → ¬ Can l (j : Int)) ∧ (missF (sumL (stT l (rep4 l) l.length) n)).2 = missT l (missF (sumL (stT l (rep4 l) l.length) n)).1
  | 0, _ => ⟨Nat.le_refl _, fun j _ h => absurd h (by omega), rfl⟩
  | n + 1, h => by
    obtain ⟨h1, h2, h3⟩ := missF_sums hp n (by omega)
    by_cases hc : Can l (n : Int)
    · rw [sumL_yes (by rw [stT_full hp (by omega)]; exact canB_iff.2 hc) (by omega), missF_snoc]
      refine ⟨Nat.le_refl _, fun j h4 h5 => absurd h5 (by show ¬ j < n + 1; have : n + 1 ≤ j := h4; omega), ?_⟩
      show _ ++ _ = missT l (n + 1)
      rw [missT_yes hc, h3]
      show missT l _ ++ numsT _ (n - _) = missT l n
      rw [← missT_nums _ (fun j h4 h5 => h2 j h4 (by omega)), show (missF (sumL (stT l (rep4 l) l.length) n)).1 + (n - (missF (sumL (stT l (rep4 l) l.length) n)).1) = n from by omega]
    · rw [sumL_no (by rw [stT_full hp (by omega)]; exact canB_no.2 hc)]
      refine ⟨by omega, fun j h4 h5 => ?_, h3⟩
      rcases Nat.lt_or_ge j n with h6 | h6
      · exact h2 j h4 h6
      · obtain rfl : j = n := by omega
        exact hc
/-- All that is missing. -/
theorem missF_all {l : List Int} (hp : Pos l) {N : Nat} (hN : N ≤ 400) : (missF (sumL (stT l (rep4 l) l.length) (N + 1))).2 ++ numsT (missF (sumL (stT l (rep4 l) l.length) (N + 1))).1 (N + 1 - (missF (sumL (stT l (rep4 l) l.length) (N + 1))).1) = missT l (N + 1) := by
  obtain ⟨h1, h2, h3⟩ := missF_sums hp (N + 1) (by omega)
  rw [h3, ← missT_nums _ (fun j h4 h5 => h2 j h4 (by omega))]
  congr 1; omega
end Go.Proofs.YthhmbcgamcbfdaaDoor
