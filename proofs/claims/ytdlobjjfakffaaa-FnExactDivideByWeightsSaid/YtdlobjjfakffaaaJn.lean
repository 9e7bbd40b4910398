/-
  Plain words on the division by weights.
-/
import Derived.Test.YtdlobjjfakffaaaJm
namespace Go.Proofs.Ytdlobjjfakffaaa
open Go.RowKit
set_option linter.unusedVariables false

def dq (l : List Int) (T S : Int) (i : Nat) : Int := (T * l.getD i 0).tdiv S
def dr (l : List Int) (T S : Int) (i : Nat) : Int := (T * l.getD i 0).tmod S
def sumW (l : List Int) : Nat → Int
  | 0 => 0
  | k + 1 => sumW l k + l.getD k 0
def lefT (l : List Int) (T S : Int) : Nat → Int
  | 0 => T
  | k + 1 => lefT l T S k - dq l T S k
def remL (l : List Int) (T S : Int) : List Int := (List.range l.length).map (dr l T S)
theorem remL_len (l : List Int) (T S : Int) : (remL l T S).length = l.length := by simp [remL]
theorem remL_get {l : List Int} {T S : Int} {i : Nat} (h : i < l.length) : (remL l T S).getD i 0 = dr l T S i := by
  rw [getI_of (by rw [remL_len]; exact h)]; simp [remL]
theorem inB_iffW {a b c : Int} : inB a b c = true ↔ a ≤ c ∧ c ≤ b := by simp [inB]
structure GoodW (l : List Int) (T S : Int) : Prop where
  len : 1 ≤ l.length ∧ l.length ≤ 32
  all : ∀ j (h : j < l.length), 0 ≤ l[j] ∧ l[j] ≤ 1000000
  tot : 0 ≤ T ∧ T ≤ 100000
  sum : S = sumW l l.length
  pos : 0 < S
theorem sumW_range {l : List Int} (h : ∀ j (h : j < l.length), 0 ≤ l[j] ∧ l[j] ≤ 1000000) : ∀ k, k ≤ l.length → 0 ≤ sumW l k ∧ sumW l k ≤ 1000000 * (k : Int)
  | 0, _ => by simp [sumW]
  | k + 1, hk => by
    have ih := sumW_range h k (by omega)
    have := h k (by omega)
    show 0 ≤ sumW l k + l.getD k 0 ∧ _
    rw [getI_of (show k < l.length by omega)]
    show _ ∧ sumW l k + l.getD k 0 ≤ _
    rw [getI_of (show k < l.length by omega)]
    omega
theorem GoodW.mul {l : List Int} {T S : Int} (h : GoodW l T S) {i : Nat} (hi : i < l.length) : 0 ≤ T * l.getD i 0 ∧ T * l.getD i 0 ≤ 100000000000 := by
  rw [getI_of hi]
  have h1 := h.all i hi
  have h2 := h.tot
  have a := Int.mul_nonneg h2.1 h1.1
  have b := Int.mul_le_mul h2.2 h1.2 h1.1 (by omega)
  omega
theorem GoodW.parts {l : List Int} {T S : Int} (h : GoodW l T S) {i : Nat} (hi : i < l.length) : T * l.getD i 0 = S * dq l T S i + dr l T S i ∧ (0 ≤ dr l T S i ∧ dr l T S i < S) ∧ 0 ≤ dq l T S i ∧ dq l T S i ≤ 100000000000 := by
  obtain ⟨h1, h2⟩ := h.mul hi
  have hp := h.pos
  unfold dq dr
  rw [Int.tdiv_eq_ediv_of_nonneg h1, Int.tmod_eq_emod_of_nonneg h1]
  generalize T * l.getD i 0 = p at *
  have e := Int.mul_ediv_add_emod p S
  have m0 := Int.emod_nonneg p (show S ≠ 0 by omega)
  have m1 := Int.emod_lt_of_pos p hp
  have d0 : 0 ≤ p / S := Int.ediv_nonneg h1 (by omega)
  have d1 : p / S ≤ p := Int.ediv_le_self S h1
  refine ⟨e.symm, ⟨m0, m1⟩, d0, by omega⟩
def sumR (l : List Int) (T S : Int) : Nat → Int
  | 0 => 0
  | k + 1 => sumR l T S k + dr l T S k
theorem GoodW.left {l : List Int} {T S : Int} (h : GoodW l T S) : ∀ k, k ≤ l.length → S * lefT l T S k = S * T - T * sumW l k + sumR l T S k
  | 0, _ => by show S * T = S * T - T * 0 + 0; rw [Int.mul_zero]; omega
  | k + 1, hk => by
    have ih := h.left k (by omega)
    have hp := (h.parts (show k < l.length by omega)).1
    show S * (lefT l T S k - dq l T S k) = S * T - T * (sumW l k + l.getD k 0) + (sumR l T S k + dr l T S k)
    rw [Int.mul_sub, Int.mul_add]
    omega
theorem GoodW.leftR {l : List Int} {T S : Int} (h : GoodW l T S) : ∀ k, k ≤ l.length → T - 100000000000 * (k : Int) ≤ lefT l T S k ∧ lefT l T S k ≤ T
  | 0, _ => by simp [lefT]
  | k + 1, hk => by
    have ih := h.leftR k (by omega)
    have hp := (h.parts (show k < l.length by omega)).2.2
    show T - _ ≤ lefT l T S k - dq l T S k ∧ lefT l T S k - dq l T S k ≤ T
    omega
theorem GoodW.sumR {l : List Int} {T S : Int} (h : GoodW l T S) : ∀ k, k ≤ l.length → 0 ≤ sumR l T S k ∧ sumR l T S k ≤ ((gtT (remL l T S) k).length : Int) * (S - 1)
  | 0, _ => by simp [Proofs.Ytdlobjjfakffaaa.sumR, gtT]
  | k + 1, hk => by
    have ih := h.sumR k (by omega)
    have hp := (h.parts (show k < l.length by omega)).2.1
    show 0 ≤ Proofs.Ytdlobjjfakffaaa.sumR l T S k + dr l T S k ∧ Proofs.Ytdlobjjfakffaaa.sumR l T S k + dr l T S k ≤ _
    have hg : (remL l T S).getD k 0 = dr l T S k := remL_get (by omega)
    by_cases hz : dr l T S k = 0
    · have e : gtT (remL l T S) (k + 1) = gtT (remL l T S) k := by simp only [gtT]; rw [hg, if_pos hz]
      rw [e]; omega
    · have e : gtT (remL l T S) (k + 1) = gtT (remL l T S) k ++ [⟨k, dr l T S k⟩] := by simp only [gtT]; rw [hg, if_neg hz]
      rw [e, List.length_append, List.length_singleton]
      have : (((gtT (remL l T S) k).length + 1 : Nat) : Int) * (S - 1) = ((gtT (remL l T S) k).length : Int) * (S - 1) + (S - 1) := by
        rw [show (((gtT (remL l T S) k).length + 1 : Nat) : Int) = ((gtT (remL l T S) k).length : Int) + 1 from by omega, Int.add_mul, Int.one_mul]
      rw [this]; omega
theorem GoodW.cnt {l : List Int} {T S : Int} (h : GoodW l T S) : 0 ≤ lefT l T S l.length ∧ lefT l T S l.length ≤ ((gtT (remL l T S) l.length).length : Int) := by
  have h1 := h.left l.length (Nat.le_refl _)
  have h2 := h.sumR l.length (Nat.le_refl _)
  have hp := h.pos
  rw [← h.sum, Int.mul_comm T S] at h1
  generalize lefT l T S l.length = L at *
  have hC : (0 : Int) ≤ ((gtT (remL l T S) l.length).length : Int) := by omega
  generalize ((gtT (remL l T S) l.length).length : Int) = C at *
  rw [Int.mul_sub, Int.mul_one, Int.mul_comm C S] at h2
  constructor
  · rcases Int.lt_or_le L 0 with c | c
    · have := Int.mul_le_mul_of_nonneg_left (show L ≤ -1 by omega) (show 0 ≤ S by omega)
      omega
    · exact c
  · rcases Int.lt_or_le C L with c | c
    · have := Int.mul_le_mul_of_nonneg_left (show C + 1 ≤ L by omega) (show 0 ≤ S by omega)
      rw [Int.mul_add, Int.mul_one] at this
      omega
    · exact c

def rowI (R : List Int) (i : Nat) : Rq := ⟨(i : Int), R.getD i 0⟩
theorem mem_gt {R : List Int} {x : Rq} : ∀ k, x ∈ gtT R k ↔ ∃ i, i < k ∧ R.getD i 0 ≠ 0 ∧ x = rowI R i
  | 0 => by simp [gtT]
  | k + 1 => by
    have ih := mem_gt (R := R) (x := x) k
    by_cases hz : R.getD k 0 = 0
    · have e : gtT R (k + 1) = gtT R k := by simp only [gtT]; rw [if_pos hz]
      rw [e, ih]
      constructor
      · rintro ⟨i, h1, h2⟩; exact ⟨i, by omega, h2⟩
      · rintro ⟨i, h1, h2, h3⟩
        rcases Nat.lt_or_ge i k with c | c
        · exact ⟨i, c, h2, h3⟩
        · rw [show i = k from by omega] at h2; exact absurd hz h2
    · have e : gtT R (k + 1) = gtT R k ++ [rowI R k] := by simp only [gtT]; rw [if_neg hz]; rfl
      rw [e, List.mem_append, ih, List.mem_singleton]
      constructor
      · rintro (⟨i, h1, h2⟩ | rfl)
        · exact ⟨i, by omega, h2⟩
        · exact ⟨k, by omega, hz, rfl⟩
      · rintro ⟨i, h1, h2, h3⟩
        rcases Nat.lt_or_ge i k with c | c
        · exact .inl ⟨i, c, h2, h3⟩
        · exact .inr (by rw [h3, show i = k from by omega])
theorem top_mem {R : List Int} {k : Nat} (hk : k < (gtT R R.length).length) : ∃ i, i < R.length ∧ R.getD i 0 ≠ 0 ∧ topF R k = rowI R i := by
  obtain ⟨j, _, h2, h3⟩ := (topF_same R).back (Nat.zero_le k) hk
  rw [rowAt_of h2] at h3
  rw [← h3]
  exact (mem_gt _).1 (List.getElem_mem h2)
theorem top_all {R : List Int} {i : Nat} (hi : i < R.length) (hz : R.getD i 0 ≠ 0) : ∃ k, k < (gtT R R.length).length ∧ topF R k = rowI R i := by
  have hm : rowI R i ∈ gtT R R.length := (mem_gt _).2 ⟨i, hi, hz, rfl⟩
  obtain ⟨j, hj, e⟩ := List.mem_iff_getElem.1 hm
  obtain ⟨k, _, h2, h3⟩ := ((topF_same R).2 (rowI R i)).1 ⟨j, Nat.zero_le _, hj, by rw [rowAt_of hj]; exact e⟩
  exact ⟨k, h2, h3⟩
/-- i is among the first t rows. -/
def Gvn (R : List Int) (t i : Nat) : Prop := ∃ k, k < t ∧ (topF R k).i = (i : Int)
theorem gvn_zero (R : List Int) (i : Nat) : ¬ Gvn R 0 i := fun ⟨k, h, _⟩ => by omega
theorem gvn_succ {R : List Int} {t b : Nat} (h : topF R t = rowI R b) (j : Nat) : Gvn R (t + 1) j ↔ Gvn R t j ∨ j = b := by
  constructor
  · rintro ⟨k, h1, h2⟩
    rcases Nat.lt_or_ge k t with c | c
    · exact .inl ⟨k, c, h2⟩
    · rw [show k = t from by omega, h] at h2
      exact .inr (by have : (b : Int) = (j : Int) := h2; omega)
  · rintro (⟨k, h1, h2⟩ | rfl)
    · exact ⟨k, by omega, h2⟩
    · exact ⟨t, by omega, by rw [h]; rfl⟩
theorem gvn_fresh {R : List Int} {t b : Nat} (ht : t < (gtT R R.length).length) (h : topF R t = rowI R b) : ¬ Gvn R t b := fun ⟨k, h1, h2⟩ => by
  obtain ⟨i, _, _, e⟩ := top_mem (R := R) (show k < _ by omega)
  rw [e] at h2
  have hib : i = b := by have : (i : Int) = (b : Int) := h2; omega
  subst hib
  have := topF_srt R k t (Nat.zero_le _) h1 ht
  rw [e, h] at this
  exact ah_irr this
theorem best_is {R : List Int} {t b : Nat} (ht : t < (gtT R R.length).length) (hb : b < R.length) (hg : ¬ Gvn R t b) (hbest : ∀ j, j < R.length → ¬ Gvn R t j → j = b ∨ Ah (rowI R b) (rowI R j)) (hnn : ∀ j, 0 ≤ R.getD j 0) : topF R t = rowI R b := by
  obtain ⟨i, hi, hz, e⟩ := top_mem ht
  rcases hbest i hi (gvn_fresh ht e) with c | c
  · rw [e, c]
  · have hbz : R.getD b 0 ≠ 0 := by
      have h1 := hnn i
      unfold Ah rowI at c
      simp only at c
      omega
    obtain ⟨m, hm, em⟩ := top_all hb hbz
    rcases (by omega : m < t ∨ m = t ∨ t < m) with d | d | d
    · exact absurd ⟨m, d, by rw [em]; rfl⟩ hg
    · rw [← d]; exact em
    · have := topF_srt R t m (Nat.zero_le _) d hm
      rw [e, em] at this
      exact absurd (c.trans this) ah_irr
open Classical in
noncomputable def outF (l : List Int) (T S : Int) (t i : Nat) : Int := dq l T S i + (if Gvn (remL l T S) t i then 1 else 0)
theorem out_zero (l : List Int) (T S : Int) (i : Nat) : outF l T S 0 i = dq l T S i := by unfold outF; rw [if_neg (gvn_zero _ _)]; omega
theorem out_here {l : List Int} {T S : Int} {t b : Nat} (h : topF (remL l T S) t = rowI (remL l T S) b) (hf : ¬ Gvn (remL l T S) t b) : outF l T S (t + 1) b = outF l T S t b + 1 := by
  unfold outF; rw [if_neg hf, if_pos ((gvn_succ h b).2 (.inr rfl))]; omega
theorem out_else {l : List Int} {T S : Int} {t b j : Nat} (h : topF (remL l T S) t = rowI (remL l T S) b) (hj : j ≠ b) : outF l T S (t + 1) j = outF l T S t j := by
  unfold outF
  by_cases hg : Gvn (remL l T S) t j
  · rw [if_pos hg, if_pos ((gvn_succ h j).2 (.inl hg))]
  · rw [if_neg hg, if_neg (fun h2 => by rcases (gvn_succ h j).1 h2 with c | c; exact hg c; exact hj c)]
theorem out_range {l : List Int} {T S : Int} (h : GoodW l T S) (t : Nat) {i : Nat} (hi : i < l.length) : 0 ≤ outF l T S t i ∧ outF l T S t i ≤ 100000000001 := by
  have := (h.parts hi).2.2
  unfold outF; split <;> omega
noncomputable def outL (l : List Int) (T S : Int) (t : Nat) : List Int := (List.range l.length).map (outF l T S t)
theorem outL_len (l : List Int) (T S : Int) (t : Nat) : (outL l T S t).length = l.length := by simp [outL]
theorem outL_get {l : List Int} {T S : Int} {t i : Nat} (h : i < (outL l T S t).length) : (outL l T S t)[i] = outF l T S t i := by simp [outL]
/-- Whether the question is valid, and the answer. -/
noncomputable def divB (l : List Int) (T : Int) : Bool := inB 1 32 (l.length : Int) && allB 0 1000000 l && inB 0 100000 T && decide (0 < sumW l l.length)
noncomputable def divL (l : List Int) (T : Int) : List Int := if divB l T then outL l T (sumW l l.length) (lefT l T (sumW l l.length) l.length).toNat else []
theorem divB_iff {l : List Int} {T : Int} : divB l T = true ↔ GoodW l T (sumW l l.length) := by
  unfold divB
  rw [Bool.and_eq_true, Bool.and_eq_true, Bool.and_eq_true, decide_eq_true_iff]
  constructor
  · rintro ⟨⟨⟨h1, h2⟩, h3⟩, h4⟩
    have h1 := inB_iffW.1 h1; have h3 := inB_iffW.1 h3
    refine ⟨by omega, fun j hj => ?_, h3, rfl, h4⟩
    unfold allB at h2
    rw [List.all_eq_true] at h2
    have := inB_iffW.1 (h2 _ (List.getElem_mem hj))
    exact this
  · rintro ⟨h1, h2, h3, _, h5⟩
    refine ⟨⟨⟨inB_iffW.2 (by omega), ?_⟩, inB_iffW.2 h3⟩, h5⟩
    unfold allB
    rw [List.all_eq_true]
    intro x hx
    obtain ⟨j, hj, rfl⟩ := List.mem_iff_getElem.1 hx
    exact inB_iffW.2 (h2 j hj)
theorem divL_no {l : List Int} {T : Int} (h : divB l T = false) : divL l T = [] := by unfold divL; rw [h]; simp
theorem divL_yes {l : List Int} {T : Int} (h : divB l T = true) : divL l T = outL l T (sumW l l.length) (lefT l T (sumW l l.length) l.length).toNat := by unfold divL; rw [if_pos h]
theorem divL_len {l : List Int} {T : Int} : (divL l T).length ≤ 32 := by
  cases h : divB l T with
  | false => rw [divL_no h]; simp
  | true => rw [divL_yes h, outL_len]; exact (divB_iff.1 h).len.2
end Go.Proofs.Ytdlobjjfakffaaa
