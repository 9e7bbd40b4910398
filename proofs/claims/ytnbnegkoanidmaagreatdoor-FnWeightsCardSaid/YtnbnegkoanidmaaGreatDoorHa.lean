/-
  Facts on the division by weights: the shares make up the total, and none is off its part by more than one.
-/
import Derived.Test.YtnbnegkoanidmaaGreatDoorMwd
namespace Go.Proofs.YtnbnegkoanidmaaGreatDoor
open Go.RowKit
set_option linter.unusedVariables false

/-- The sum of the first k values. -/
def smF (F : Nat → Int) : Nat → Int
  | 0 => 0
  | k + 1 => smF F k + F k
theorem smF_same {F G : Nat → Int} : ∀ k, (∀ j, j < k → G j = F j) → smF G k = smF F k
  | 0, _ => rfl
  | k + 1, h => by show smF G k + G k = smF F k + F k; rw [smF_same k (fun j hj => h j (by omega)), h k (by omega)]
theorem smF_one {F G : Nat → Int} {b : Nat} (hb : G b = F b + 1) : ∀ k, b < k → (∀ j, j < k → j ≠ b → G j = F j) → smF G k = smF F k + 1
  | k + 1, h, hj => by
    show smF G k + G k = smF F k + F k + 1
    rcases Nat.eq_or_lt_of_le (Nat.lt_succ_iff.1 h) with e | e
    · subst e
      rw [smF_same b (fun j h1 => hj j (by omega) (by omega)), hb]; omega
    · rw [smF_one hb k e (fun j h1 h2 => hj j (by omega) h2), hj k (by omega) (by omega)]; omega
theorem smF_range (F : Nat → Int) : ∀ n : Nat, ((List.range n).map F).sum = smF F n
  | 0 => rfl
  | n + 1 => by
    rw [List.range_succ, List.map_append, List.sum_append, smF_range F n]
    show smF F n + (F n + 0) = smF F n + F n
    omega
theorem smF_dq (l : List Int) (T S : Int) : ∀ k, smF (dq l T S) k = T - lefT l T S k
  | 0 => by show (0 : Int) = T - T; omega
  | k + 1 => by
    show smF (dq l T S) k + dq l T S k = T - (lefT l T S k - dq l T S k)
    rw [smF_dq l T S k]; omega
theorem out_sum {l : List Int} {T S : Int} (h : GoodW l T S) : ∀ t, t ≤ (gtT (remL l T S) l.length).length → smF (outF l T S t) l.length = T - lefT l T S l.length + (t : Int)
  | 0, _ => by
    rw [smF_same (F := dq l T S) l.length (fun j _ => out_zero l T S j), smF_dq]; omega
  | t + 1, ht => by
    have ih := out_sum h t (by omega)
    have ht' : t < (gtT (remL l T S) (remL l T S).length).length := by rw [remL_len]; omega
    obtain ⟨b, hb, _, e⟩ := top_mem ht'
    have hf := gvn_fresh ht' e
    rw [remL_len] at hb
    rw [smF_one (F := outF l T S t) (out_here e hf) l.length hb (fun j _ hj => out_else e hj), ih]
    omega
/-- The sum of the weights, and what is known of the shares. -/
structure DivOk (l : List Int) (T : Int) (D : List Int) (S : Int) : Prop where
  len : D.length = l.length
  l32 : l.length ≤ 32
  tot : 0 ≤ T ∧ T ≤ 100000
  sum : D.sum = T
  pos : 0 < S ∧ S ≤ 32000000
  ws : l.sum = S
  all : ∀ j (h : j < l.length), 0 ≤ l[j] ∧ l[j] ≤ 1000000
  fine : ∀ j (h : j < l.length) (h' : j < D.length), 0 ≤ D[j] ∧ D[j] ≤ 100000000001 ∧ D[j] * S ≤ T * l[j] + S ∧ T * l[j] - S ≤ D[j] * S
theorem sumW_sum (l : List Int) : sumW l l.length = l.sum := by
  have h : ∀ k, k ≤ l.length → sumW l k = (l.take k).sum := by
    intro k
    induction k with
    | zero => intro _; rfl
    | succ k ih =>
      intro hk
      show sumW l k + l.getD k 0 = _
      rw [ih (by omega), List.take_succ_eq_append_getElem (by omega), List.sum_append, getI_of (by omega)]
      simp only [List.sum_cons, List.sum_nil, Int.add_zero]
  have := h l.length (Nat.le_refl _)
  rwa [List.take_length] at this
theorem div_ok {l : List Int} {T : Int} (h : divB l T = true) : DivOk l T (divL l T) (sumW l l.length) := by
  have g := divB_iff.1 h
  rw [divL_yes h]
  generalize hS : sumW l l.length = S at *
  have hc := g.cnt
  obtain ⟨t, ht⟩ : ∃ t, t = (lefT l T S l.length).toNat := ⟨_, rfl⟩
  rw [← ht]
  refine ⟨outL_len l T S t, g.len.2, g.tot, ?_, ⟨g.pos, ?_⟩, by rw [← sumW_sum, hS], g.all, fun j hj h' => ?_⟩
  · unfold outL
    rw [smF_range, out_sum g t (by omega)]
    omega
  · have := (sumW_range g.all l.length (Nat.le_refl _)).2
    rw [hS] at this
    have := g.len.2
    omega
  · rw [outL_get]
    have hr := out_range g t hj
    obtain ⟨p1, p2, p3, p4⟩ := g.parts hj
    rw [getI_of hj] at p1
    refine ⟨hr.1, hr.2, ?_, ?_⟩
    · unfold outF
      split
      · rw [Int.add_mul, Int.one_mul, Int.mul_comm (dq l T S j)]; omega
      · rw [Int.add_zero, Int.mul_comm (dq l T S j)]; have := g.pos; omega
    · unfold outF
      split
      · rw [Int.add_mul, Int.one_mul, Int.mul_comm (dq l T S j)]; omega
      · rw [Int.add_zero, Int.mul_comm (dq l T S j)]; omega
end Go.Proofs.YtnbnegkoanidmaaGreatDoor
