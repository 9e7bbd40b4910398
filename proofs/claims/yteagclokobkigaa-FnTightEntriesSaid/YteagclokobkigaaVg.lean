/-
  The contract of impl.addSums: the sums that some spaces more of one width make.
-/
import Derived.Test.YteagclokobkigaaVb
namespace Go.Proofs.Yteagclokobkigaa
open Go.RowKit
set_option linter.unusedVariables false

/-- c of the width v go ahead of a sum of T. -/
def LcP (T : Nat → Bool) (v j c : Nat) : Prop := c * v ≤ j ∧ T (j - c * v) = true
/-- T' is T with up to s of the width v more. -/
def MoreOf (T T' : Nat → Bool) (v s : Nat) : Prop := ∀ j, T' j = true ↔ ∃ c, c ≤ s ∧ LcP T v j c
open Classical in
noncomputable def lcU (T T' : Nat → Bool) (v j : Nat) : Nat := if h : T' j = true ∧ ∃ c, LcP T v j c then Classical.choose (least_ex h.2) else 0
theorem lc_zero {T : Nat → Bool} {v j : Nat} : LcP T v j 0 ↔ T j = true := by unfold LcP; simp
theorem lc_succ {T : Nat → Bool} {v b c : Nat} : LcP T v (v + b) (c + 1) ↔ LcP T v b c := by
  unfold LcP
  rw [Nat.succ_mul, show v + b - (c * v + v) = b - c * v from by omega]
  exact ⟨fun ⟨h1, h2⟩ => ⟨by omega, h2⟩, fun ⟨h1, h2⟩ => ⟨by omega, h2⟩⟩
theorem lc_small {T : Nat → Bool} {v j c : Nat} (hj : j < v) (h : LcP T v j c) : c = 0 := by
  cases c with
  | zero => rfl
  | succ c => have := h.1; rw [Nat.succ_mul] at this; omega
theorem lcU_no {T T' : Nat → Bool} {v s : Nat} (_H : MoreOf T T' v s) {j : Nat} (h : T' j = false) : lcU T T' v j = 0 := by unfold lcU; rw [dif_neg]; rintro ⟨h1, _⟩; rw [h] at h1; cases h1
section
variable {T T' : Nat → Bool} {v s : Nat} (H : MoreOf T T' v s)
include H
theorem lcU_yes {j : Nat} (h : T' j = true) : LcP T v j (lcU T T' v j) ∧ ∀ c, LcP T v j c → lcU T T' v j ≤ c := by
  obtain ⟨c, _, hc⟩ := (H j).1 h
  have hh : T' j = true ∧ ∃ c, LcP T v j c := ⟨h, c, hc⟩
  unfold lcU
  rw [dif_pos hh]
  exact Classical.choose_spec (least_ex hh.2)
theorem lcU_le {j : Nat} : lcU T T' v j ≤ s := by
  cases h : T' j
  · rw [lcU_no H h]; omega
  · obtain ⟨c, hs, hc⟩ := (H j).1 h
    have := (lcU_yes H h).2 c hc; omega
theorem more_keep {j : Nat} (h : T j = true) : T' j = true ∧ lcU T T' v j = 0 := by
  have h1 : T' j = true := (H j).2 ⟨0, by omega, lc_zero.2 h⟩
  have := (lcU_yes H h1).2 0 (lc_zero.2 h)
  exact ⟨h1, by omega⟩
theorem more_small {j : Nat} (hj : j < v) : T' j = T j ∧ lcU T T' v j = 0 := by
  cases h : T j
  · have h1 : T' j = false := by
      cases h2 : T' j
      · rfl
      · obtain ⟨c, _, hc⟩ := (H j).1 h2
        obtain rfl := lc_small hj hc
        rw [lc_zero, h] at hc; cases hc
    exact ⟨h1, lcU_no H h1⟩
  · exact more_keep H h
theorem more_none {b : Nat} (h : T (v + b) = false) (hb : T' b = false) : T' (v + b) = false ∧ lcU T T' v (v + b) = 0 := by
  have h1 : T' (v + b) = false := by
    cases h2 : T' (v + b)
    · rfl
    · obtain ⟨c, hs, hc⟩ := (H _).1 h2
      cases c with
      | zero => rw [lc_zero, h] at hc; cases hc
      | succ c =>
        have := (H b).2 ⟨c, by omega, lc_succ.1 hc⟩
        rw [hb] at this; cases this
  exact ⟨h1, lcU_no H h1⟩
theorem more_full {b : Nat} (h : T (v + b) = false) (hb : T' b = true) (hu : ¬ lcU T T' v b < s) : T' (v + b) = false ∧ lcU T T' v (v + b) = 0 := by
  have h1 : T' (v + b) = false := by
    cases h2 : T' (v + b)
    · rfl
    · obtain ⟨c, hs, hc⟩ := (H _).1 h2
      cases c with
      | zero => rw [lc_zero, h] at hc; cases hc
      | succ c => have := (lcU_yes H hb).2 c (lc_succ.1 hc); omega
  exact ⟨h1, lcU_no H h1⟩
theorem more_one {b : Nat} (h : T (v + b) = false) (hb : T' b = true) (hu : lcU T T' v b < s) : T' (v + b) = true ∧ lcU T T' v (v + b) = lcU T T' v b + 1 := by
  obtain ⟨h1, h2⟩ := lcU_yes H hb
  have h3 : LcP T v (v + b) (lcU T T' v b + 1) := lc_succ.2 h1
  have h4 : T' (v + b) = true := (H _).2 ⟨_, by omega, h3⟩
  obtain ⟨h5, h6⟩ := lcU_yes H h4
  refine ⟨h4, ?_⟩
  have h7 := h6 _ h3
  rcases Nat.lt_or_ge (lcU T T' v (v + b)) (lcU T T' v b + 1) with h8 | h8
  · cases hq : lcU T T' v (v + b) with
    | zero => rw [hq, lc_zero, h] at h5; cases h5
    | succ q =>
      rw [hq] at h5
      have := h2 q (lc_succ.1 h5)
      omega
  · omega
end
/-- Sums below x with the new width, the others without it. -/
def mixB (T T' : Nat → Bool) (x : Nat) : Nat → Value := fun j => .bool (if j < x then T' j else T j)
noncomputable def mixU (T T' : Nat → Bool) (v x : Nat) : Nat → Value := fun j => .int .i64 (if j < x then (lcU T T' v j : Int) else 0)
theorem mixB_keep {T T' : Nat → Bool} {x : Nat} (h : T' x = T x) : mixB T T' x = mixB T T' (x + 1) := by
  funext j; unfold mixB
  by_cases h1 : j < x
  · rw [if_pos h1, if_pos (by omega)]
  · by_cases h2 : j = x
    · subst h2; rw [if_neg h1, if_pos (by omega), h]
    · rw [if_neg h1, if_neg (by omega)]
theorem mixB_set {T T' : Nat → Bool} {x : Nat} (h : T' x = true) : (fun j => if j = x then Value.bool true else mixB T T' x j) = mixB T T' (x + 1) := by
  funext j; unfold mixB
  by_cases h2 : j = x
  · subst h2; rw [if_pos rfl, if_pos (by omega), h]
  · rw [if_neg h2]
    by_cases h1 : j < x
    · rw [if_pos h1, if_pos (by omega)]
    · rw [if_neg h1, if_neg (by omega)]
theorem mixU_keep {T T' : Nat → Bool} {v x : Nat} (h : lcU T T' v x = 0) : mixU T T' v x = mixU T T' v (x + 1) := by
  funext j; unfold mixU
  by_cases h1 : j < x
  · rw [if_pos h1, if_pos (by omega)]
  · by_cases h2 : j = x
    · subst h2; rw [if_neg h1, if_pos (by omega), h]; rfl
    · rw [if_neg h1, if_neg (by omega)]
theorem mixU_set {T T' : Nat → Bool} {v x : Nat} {q : Int} (h : (lcU T T' v x : Int) = q) : (fun j => if j = x then Value.int .i64 q else mixU T T' v x j) = mixU T T' v (x + 1) := by
  funext j; unfold mixU
  by_cases h2 : j = x
  · subst h2; rw [if_pos rfl, if_pos (by omega), h]
  · rw [if_neg h2]
    by_cases h1 : j < x
    · rw [if_pos h1, if_pos (by omega)]
    · rw [if_neg h1, if_neg (by omega)]
theorem grown_new {w w' : World} {row : Option Nat} (h : w.grownBy w' row) (u j : Nat) (hu : w.heap.size ≤ u) (x : Value) : w.grownBy (w'.setCell ⟨u, j, none⟩ x) row :=
  ⟨h.os, h.tape, h.output, by simpa [World.setCell] using h.size, fun i hi hne => (Below.heap_setCell w' _ x i (by show i ≠ u; omega)).trans (h.block i hi hne)⟩

end Go.Proofs.Yteagclokobkigaa
