/-
  The contract of spec.FewestSpaces.
-/
import Derived.Test.YthhmbcgamcbfdaaDoorVe
import Derived.Test.YthhmbcgamcbfdaaDoorVo
namespace Go.Proofs.YthhmbcgamcbfdaaDoor
open Go.RowKit
set_option linter.unusedVariables false

theorem ints_take {w : World} {A : Option Addr} {l : List Int} (h : IntsIn w A l) (k : Nat) (hk : k ≤ l.length) : IntsIn w A (l.take k) := fun hn => by
  rw [List.length_take] at hn
  obtain ⟨b, off, rfl, h2, h3⟩ := h (by omega)
  exact ⟨b, off, rfl, h2, fun j hj => by
    rw [List.length_take] at hj
    rw [List.getElem_take]; exact h3 j (by omega)⟩
theorem useC_is {ks : List Int} (hp : Pos ks) {k : Nat} (hk : k < ks.length) {n : Int} (h : LeftP ks (k + 1) n) {m : Nat} (ho : OptP ks k n ks[k] m) (hno : ∀ c, m < c → ¬ OptP ks k n ks[k] c) : useC ks n ks[k] = m := by
  have h1 := opt_le hp (List.getElem_mem hk) ho
  have h2 := opt_useC hp hk h
  rcases Nat.lt_or_ge m (useC ks n ks[k]) with h3 | h3
  · exact absurd h2 (hno _ h3)
  · omega
theorem useC_none {ks : List Int} (hp : Pos ks) {k : Nat} (hk : k < ks.length) {n : Int} (h : LeftP ks (k + 1) n) (hno : ∀ c, 0 < c → ¬ OptP ks k n ks[k] c) : useC ks n ks[k] = 0 := by
  have h2 := opt_useC hp hk h
  rcases Nat.eq_zero_or_pos (useC ks n ks[k]) with h3 | h3
  · exact h3
  · exact absurd h2 (hno _ h3)
noncomputable def outF (l : List Int) (N : Int) (k : Nat) : Nat → Value := fun j => .int .i64 (if l.length - k ≤ j ∧ j < l.length then (cntF l N j : Int) else 0)
theorem outF_set {l : List Int} {N : Int} {k : Nat} (hk : k < l.length) {m : Nat} (h : cntF l N (l.length - 1 - k) = m) : (fun j => if j = l.length - 1 - k then Value.int .i64 (m : Int) else outF l N k j) = outF l N (k + 1) := by
  funext j; unfold outF
  by_cases hj : j = l.length - 1 - k
  · subst hj; rw [if_pos rfl, if_pos (by omega), h]
  · rw [if_neg hj]
    by_cases h3 : l.length - k ≤ j ∧ j < l.length
    · rw [if_pos h3, if_pos (by omega)]
    · rw [if_neg h3, if_neg (by omega)]
theorem outF_keep {l : List Int} {N : Int} {k : Nat} (hk : k < l.length) (h : cntF l N (l.length - 1 - k) = 0) : outF l N k = outF l N (k + 1) := by
  funext j; unfold outF
  by_cases hj : j = l.length - 1 - k
  · subst hj; rw [if_neg (by omega), if_pos (by omega), h]; rfl
  · by_cases h3 : l.length - k ≤ j ∧ j < l.length
    · rw [if_pos h3, if_pos (by omega)]
    · rw [if_neg h3, if_neg (by omega)]
theorem cnt_at {l : List Int} {N : Int} {k : Nat} (hk : k < l.length) : cntF l N (l.length - 1 - k) = useC l (remF l N k) (l[l.length - 1 - k]'(by omega)) := by
  unfold cntF
  rw [show l.length - 1 - (l.length - 1 - k) = k from by omega, getD_of (by omega)]
theorem rem_succ {l : List Int} {N : Int} {k : Nat} (hk : k < l.length) : remF l N (k + 1) = remF l N k - (useC l (remF l N k) (l[l.length - 1 - k]'(by omega)) : Int) * (l[l.length - 1 - k]'(by omega)) := by
  show remF l N k - (useC l (remF l N k) (l.getD (l.length - 1 - k) 0) : Int) * l.getD (l.length - 1 - k) 0 = _
  rw [getD_of (by omega)]
theorem rem_is {l : List Int} {N : Int} {k : Nat} {v : Int} {m : Nat} (hv : l.getD (l.length - 1 - k) 0 = v) (h : useC l (remF l N k) v = m) : remF l N (k + 1) = remF l N k - (m : Int) * v ∧ (k < l.length → cntF l N (l.length - 1 - k) = m) := by
  subst hv
  refine ⟨by rw [← h]; rfl, fun hk => ?_⟩
  unfold cntF
  rw [show l.length - 1 - (l.length - 1 - k) = k from by omega]
  exact h
theorem rem_range {l : List Int} (hp : Pos l) {N : Int} (h : Can l N) : ∀ k : Nat, k ≤ l.length → 0 ≤ remF l N k ∧ remF l N k ≤ N
  | 0, _ => ⟨can_nonneg hp h, Int.le_refl _⟩
  | k + 1, hk => by
    have ih := rem_range hp h k (by omega)
    have h1 := can_nonneg hp (rem_left hp h (k + 1) hk).1
    rw [rem_succ (by omega)] at h1 ⊢
    have := nat_mul_nonneg (hp _ (List.getElem_mem (show l.length - 1 - k < l.length by omega))) (useC l (remF l N k) (l[l.length - 1 - k]'(by omega)))
    omega

end Go.Proofs.YthhmbcgamcbfdaaDoor
