/-
  The contracts of BestMeasure, in spec and in impl.
-/
import Derived.Test.YtpbkeagpipipmaaUh
namespace Go.Proofs.Ytpbkeagpipipmaa
open Go.RowKit
set_option linter.unusedVariables false

/-- After k measures from a on: the best one, its cost, and whether there is any. -/
def bmT (l : List Int) (r : Ru) (a : Int) : Nat → Int × Int × Bool
  | 0 => (0, 0, false)
  | k + 1 => if jsB l r (a + (k : Int)) = true ∧ ((bmT l r a k).2.2 = false ∨ coV l r (a + (k : Int)) < (bmT l r a k).2.1) then (a + (k : Int), coV l r (a + (k : Int)), true) else bmT l r a k
def bsV (l : List Int) (r : Ru) (a : Int) (k : Nat) : Int := (bmT l r a k).1
def lsV (l : List Int) (r : Ru) (a : Int) (k : Nat) : Int := (bmT l r a k).2.1
def fdV (l : List Int) (r : Ru) (a : Int) (k : Nat) : Bool := (bmT l r a k).2.2
def sbV (l : List Int) (r : Ru) (a : Int) (k : Nat) : Int := if fdV l r a k then bsV l r a k else -1
theorem bm_no {l : List Int} {r : Ru} {a : Int} {k : Nat} (h : jsB l r (a + (k : Int)) = false ∨ (fdV l r a k = true ∧ ¬ coV l r (a + (k : Int)) < lsV l r a k)) : bmT l r a (k + 1) = bmT l r a k := by
  show (if _ then _ else _) = _
  rw [if_neg]
  rintro ⟨h1, h2⟩
  rcases h with h | ⟨h3, h4⟩
  · rw [h] at h1; cases h1
  · rcases h2 with h2 | h2
    · rw [fdV, h2] at h3; cases h3
    · exact h4 h2
theorem bm_yes {l : List Int} {r : Ru} {a : Int} {k : Nat} (h : jsB l r (a + (k : Int)) = true) (h2 : fdV l r a k = false ∨ coV l r (a + (k : Int)) < lsV l r a k) : bmT l r a (k + 1) = (a + (k : Int), coV l r (a + (k : Int)), true) := by
  show (if _ then _ else _) = _
  rw [if_pos ⟨h, h2⟩]
theorem bm_keep {l : List Int} {r : Ru} {a : Int} {k : Nat} (h : bmT l r a (k + 1) = bmT l r a k) : bsV l r a (k + 1) = bsV l r a k ∧ lsV l r a (k + 1) = lsV l r a k ∧ fdV l r a (k + 1) = fdV l r a k ∧ sbV l r a (k + 1) = sbV l r a k := by
  unfold sbV bsV lsV fdV; rw [h]; exact ⟨rfl, rfl, rfl, rfl⟩
theorem bm_take {l : List Int} {r : Ru} {a : Int} {k : Nat} (h : bmT l r a (k + 1) = (a + (k : Int), coV l r (a + (k : Int)), true)) : bsV l r a (k + 1) = a + (k : Int) ∧ lsV l r a (k + 1) = coV l r (a + (k : Int)) ∧ fdV l r a (k + 1) = true ∧ sbV l r a (k + 1) = a + (k : Int) := by
  unfold sbV bsV lsV fdV; rw [h]; exact ⟨rfl, rfl, rfl, rfl⟩
theorem bm_inv (l : List Int) (r : Ru) (a : Int) : ∀ k, fdV l r a k = true → jsB l r (bsV l r a k) = true ∧ lsV l r a k = coV l r (bsV l r a k) ∧ a ≤ bsV l r a k ∧ bsV l r a k < a + (k : Int) ∧ ∀ j : Nat, j < k → jsB l r (a + (j : Int)) = true → coV l r (bsV l r a k) < coV l r (a + (j : Int)) ∨ (coV l r (bsV l r a k) = coV l r (a + (j : Int)) ∧ bsV l r a k ≤ a + (j : Int))
  | 0, h => by cases h
  | k + 1, h => by
    by_cases hy : jsB l r (a + (k : Int)) = true ∧ (fdV l r a k = false ∨ coV l r (a + (k : Int)) < lsV l r a k)
    · obtain ⟨e1, e2, e3, e4⟩ := bm_take (bm_yes hy.1 hy.2)
      rw [e1, e2]
      refine ⟨hy.1, rfl, by omega, by omega, fun j hj hjs => ?_⟩
      rcases Nat.lt_or_ge j k with h5 | h5
      · rcases hy.2 with h6 | h6
        · exfalso
          exact none_before l r a k h6 j h5 hjs
        · by_cases h7 : fdV l r a k = true
          · obtain ⟨i1, i2, i3, i4, i5⟩ := bm_inv l r a k h7
            rcases i5 j h5 hjs with h8 | ⟨h8, h9⟩ <;> (left; omega)
          · exfalso
            exact none_before l r a k (by simpa using h7) j h5 hjs
      · obtain rfl : j = k := by omega
        right; exact ⟨rfl, Int.le_refl _⟩
    · have hn : jsB l r (a + (k : Int)) = false ∨ (fdV l r a k = true ∧ ¬ coV l r (a + (k : Int)) < lsV l r a k) := by
        cases h1 : jsB l r (a + (k : Int))
        · exact .inl rfl
        · right
          cases h2 : fdV l r a k
          · exact absurd ⟨h1, .inl h2⟩ hy
          · exact ⟨rfl, fun h3 => hy ⟨h1, .inr h3⟩⟩
      obtain ⟨e1, e2, e3, e4⟩ := bm_keep (bm_no hn)
      rw [e3] at h
      obtain ⟨i1, i2, i3, i4, i5⟩ := bm_inv l r a k h
      rw [e1, e2]
      refine ⟨i1, i2, i3, by omega, fun j hj hjs => ?_⟩
      rcases Nat.lt_or_ge j k with h5 | h5
      · exact i5 j h5 hjs
      · obtain rfl : j = k := by omega
        rcases hn with h6 | ⟨h6, h7⟩
        · rw [h6] at hjs; cases hjs
        · rcases Int.lt_or_eq_of_le (Int.not_lt.1 h7) with h8 | h8
          · left; omega
          · right; exact ⟨by omega, by omega⟩
where
  none_before (l : List Int) (r : Ru) (a : Int) : ∀ k, fdV l r a k = false → ∀ j : Nat, j < k → jsB l r (a + (j : Int)) = true → False
  | 0, _, j, hj, _ => by omega
  | k + 1, h, j, hj, hjs => by
    by_cases hy : jsB l r (a + (k : Int)) = true ∧ (fdV l r a k = false ∨ coV l r (a + (k : Int)) < lsV l r a k)
    · have e3 := (bm_take (bm_yes hy.1 hy.2)).2.2.1
      rw [e3] at h; cases h
    · have hn : jsB l r (a + (k : Int)) = false ∨ (fdV l r a k = true ∧ ¬ coV l r (a + (k : Int)) < lsV l r a k) := by
        cases h1 : jsB l r (a + (k : Int))
        · exact .inl rfl
        · right
          cases h2 : fdV l r a k
          · exact absurd ⟨h1, .inl h2⟩ hy
          · exact ⟨rfl, fun h3 => hy ⟨h1, .inr h3⟩⟩
      obtain ⟨e1, e2, e3, e4⟩ := bm_keep (bm_no hn)
      rw [e3] at h
      rcases Nat.lt_or_ge j k with h5 | h5
      · exact none_before l r a k h j h5 hjs
      · obtain rfl : j = k := by omega
        rcases hn with h6 | ⟨h6, h7⟩
        · rw [h6] at hjs; cases hjs
        · rw [h] at h6; cases h6
theorem bm_off {l : List Int} {r : Ru} (h : lrB l r = false) (a : Int) : ∀ k, bmT l r a k = (0, 0, false)
  | 0 => rfl
  | k + 1 => by rw [bm_no (.inl (js_not1 (by unfold askB; rw [h]; rfl))), bm_off h a k]
/-- How many measures from a to b. -/
def bmN (a b : Int) : Nat := (b + 1 - a).toNat
def abB (a b : Int) : Bool := inB 1 2000 a && inB 1 2000 b
def bmB (l : List Int) (r : Ru) (a b : Int) : Bool := abB a b && fdV l r a (bmN a b)
def bmV (l : List Int) (r : Ru) (a b : Int) : Int := if abB a b then bsV l r a (bmN a b) else 0
theorem bm_out {l : List Int} {r : Ru} {a b : Int} (h : abB a b = false) : bmV l r a b = 0 ∧ bmB l r a b = false := by unfold bmV bmB; rw [h]; exact ⟨rfl, rfl⟩
theorem bm_in {l : List Int} {r : Ru} {a b : Int} (h : abB a b = true) : bmV l r a b = bsV l r a (bmN a b) ∧ bmB l r a b = fdV l r a (bmN a b) := by unfold bmV bmB; rw [h]; exact ⟨rfl, rfl⟩
theorem bm_off2 {l : List Int} {r : Ru} (h : lrB l r = false) (a b : Int) : bmV l r a b = 0 ∧ bmB l r a b = false := by
  cases ha : abB a b
  · exact bm_out ha
  · obtain ⟨e1, e2⟩ := bm_in (l := l) (r := r) ha
    rw [e1, e2, bsV, fdV, bm_off h]; exact ⟨rfl, rfl⟩
theorem bs_nil {l : List Int} {r : Ru} {a : Int} : ∀ k, fdV l r a k = false → bsV l r a k = 0
  | 0, _ => rfl
  | k + 1, h => by
    by_cases hy : jsB l r (a + (k : Int)) = true ∧ (fdV l r a k = false ∨ coV l r (a + (k : Int)) < lsV l r a k)
    · have e3 := (bm_take (bm_yes hy.1 hy.2)).2.2.1
      rw [e3] at h; cases h
    · have hn : jsB l r (a + (k : Int)) = false ∨ (fdV l r a k = true ∧ ¬ coV l r (a + (k : Int)) < lsV l r a k) := by
        cases h1 : jsB l r (a + (k : Int))
        · exact .inl rfl
        · right
          cases h2 : fdV l r a k
          · exact absurd ⟨h1, .inl h2⟩ hy
          · exact ⟨rfl, fun h3 => hy ⟨h1, .inr h3⟩⟩
      obtain ⟨e1, e2, e3, e4⟩ := bm_keep (bm_no hn)
      rw [e3] at h
      rw [e1]; exact bs_nil k h
end Go.Proofs.Ytpbkeagpipipmaa
