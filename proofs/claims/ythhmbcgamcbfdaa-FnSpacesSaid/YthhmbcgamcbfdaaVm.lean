/-
  The contract of impl.ThinnestNeeded.
-/
import Derived.Test.YthhmbcgamcbfdaaVj
import Derived.Test.YthhmbcgamcbfdaaVf
import Derived.IntWalk
namespace Go.Proofs.Ythhmbcgamcbfdaa
open Go.RowKit Go.Shelf
set_option linter.unusedVariables false
attribute [local go_sem] Oper.semAt_some encS

/-- What stands behind the sums that have come. -/
def thStep (N v : Nat) (s : Int × Bool) (x : Sum4) : Int × Bool := if ((N : Int) - x.val).tmod v = 0 then (((N : Int) - x.val).tdiv v, true) else s
def thF (N v : Nat) (pre : List Sum4) : Int × Bool := pre.foldl (thStep N v) (0, false)
theorem thF_snoc (N v : Nat) (pre : List Sum4) (x : Sum4) : thF N v (pre ++ [x]) = thStep N v (thF N v pre) x := by simp [thF]
theorem thStep_yes {N v : Nat} {s : Int × Bool} {x : Sum4} (h : ((N : Int) - x.val).tmod v = 0) : thStep N v s x = (((N : Int) - x.val).tdiv v, true) := if_pos h
theorem thStep_no {N v : Nat} {s : Int × Bool} {x : Sum4} (h : ¬ ((N : Int) - x.val).tmod v = 0) : thStep N v s x = s := if_neg h
/-- Behind the sums below k: the least count that leaves one of them. -/
theorem thF_sums {v N : Nat} {r : List Int} (hp : Pos r) (hv : 1 ≤ v) : ∀ k : Nat, k ≤ N + 1 → N ≤ 400 →
    ((thF N v (sumL (stT r (rep4 r) r.length) k)).2 = false ∧ ∀ c : Nat, (N : Int) - c * v < k → ¬ Can r ((N : Int) - c * v)) ∨
    (∃ c : Nat, thF N v (sumL (stT r (rep4 r) r.length) k) = ((c : Int), true) ∧ Can r ((N : Int) - c * v) ∧ ∀ d : Nat, d < c → (N : Int) - d * v < k → ¬ Can r ((N : Int) - d * v))
  | 0, _, _ => .inl ⟨rfl, fun c h hc => by have := can_nonneg hp hc; omega⟩
  | k + 1, h, hN => by
    have ih := thF_sums hp hv k (by omega) hN
    by_cases hc : Can r (k : Int)
    · rw [sumL_yes (by rw [stT_full hp (by omega)]; exact canB_iff.2 hc) (by omega), thF_snoc]
      have hnn : (0 : Int) ≤ (N : Int) - (k : Int) := by omega
      by_cases hm : ((N : Int) - (k : Int)).tmod v = 0
      · rw [thStep_yes hm]
        right
        have hdm := Int.mul_tdiv_add_tmod ((N : Int) - (k : Int)) v
        rw [hm, Int.add_zero] at hdm
        have hd0 : 0 ≤ ((N : Int) - (k : Int)).tdiv v := Int.tdiv_nonneg hnn (by omega)
        obtain ⟨c, hcc⟩ : ∃ c : Nat, ((N : Int) - (k : Int)).tdiv v = (c : Int) := ⟨_, (Int.toNat_of_nonneg hd0).symm⟩
        rw [hcc] at hdm
        have hk : (N : Int) - c * v = k := by rw [Int.mul_comm]; omega
        refine ⟨c, by show (((N : Int) - (k : Int)).tdiv v, true) = _; rw [hcc], by rw [hk]; exact hc, fun d hd hdk => ?_⟩
        exfalso
        have : ((d + 1 : Nat) : Int) * v ≤ (c : Int) * v := Int.mul_le_mul_of_nonneg_right (by omega) (by omega)
        rw [Int.natCast_add, Int.add_mul] at this
        simp at this
        omega
      · rw [thStep_no hm]
        have nok : ∀ c : Nat, (N : Int) - c * v ≠ k := fun c e => hm (by
          rw [show (N : Int) - (k : Int) = c * v from by omega]; exact Int.mul_tmod_left _ _)
        rcases ih with ⟨h1, h2⟩ | ⟨c, h1, h2, h3⟩
        · exact .inl ⟨h1, fun c hck => by rcases Int.lt_or_le ((N : Int) - c * v) k with h4 | h4
                                          · exact h2 c h4
                                          · exact absurd (by omega) (nok c)⟩
        · exact .inr ⟨c, h1, h2, fun d hd hdk => by rcases Int.lt_or_le ((N : Int) - d * v) k with h4 | h4
                                                    · exact h3 d hd h4
                                                    · exact absurd (by omega) (nok d)⟩
    · rw [sumL_no (by rw [stT_full hp (by omega)]; exact canB_no.2 hc)]
      have nok : ∀ c : Nat, (N : Int) - c * v = k → ¬ Can r ((N : Int) - c * v) := fun c e => by rw [e]; exact hc
      rcases ih with ⟨h1, h2⟩ | ⟨c, h1, h2, h3⟩
      · exact .inl ⟨h1, fun c hck => by rcases Int.lt_or_le ((N : Int) - c * v) k with h4 | h4
                                        · exact h2 c h4
                                        · exact nok c (by omega)⟩
      · exact .inr ⟨c, h1, h2, fun d hd hdk => by rcases Int.lt_or_le ((N : Int) - d * v) k with h4 | h4
                                                  · exact h3 d hd h4
                                                  · exact nok d (by omega)⟩

theorem tdiv_small {y v : Int} (h : -400 ≤ y ∧ y ≤ 400) : -400 ≤ y.tdiv v ∧ y.tdiv v ≤ 400 := by
  have := Int.natAbs_tdiv_le_natAbs y v
  omega
theorem thF_none (N v : Nat) : ∀ (pre : List Sum4), (thF N v pre).2 = false → (thF N v pre).1 = 0 := fun pre => by
  unfold thF
  have gen : ∀ (pre : List Sum4) (s : Int × Bool), (s.2 = false → s.1 = 0) → (pre.foldl (thStep N v) s).2 = false → (pre.foldl (thStep N v) s).1 = 0 := by
    intro pre
    induction pre with
    | nil => intro s hs h; exact hs h
    | cons x r ih =>
      intro s hs h
      refine ih _ (fun h2 => ?_) h
      by_cases hm : ((N : Int) - x.val).tmod v = 0
      · rw [thStep_yes hm] at h2; cases h2
      · rw [thStep_no hm] at h2 ⊢; exact hs h2
  exact gen pre (0, false) (fun _ => rfl)
end Go.Proofs.Ythhmbcgamcbfdaa
