/-
  Plain facts on bills: when a sort runs out, what needs sum up to, how often copy can be set. (No function of the program is named here. For FnBills.)
-/
import Derived.Test.YtnbnegkoanidmaaGreatDoorMsk
import Derived.Test.YtnbnegkoanidmaaGreatDoorTim
import Derived.Test.YtnbnegkoanidmaaGreatDoorRec
namespace Go.Proofs.YtnbnegkoanidmaaGreatDoor.S1
open Go.RowKit
set_option linter.unusedVariables false

def okE : Except Nat (List Int) → Bool | .ok _ => true | .error _ => false
theorem runL_append (left : List Int) (a b : List Nat) : runL left (a ++ b) = match runL left a with | .error i => .error i | .ok l => runL l b := by
  induction a generalizing left with
  | nil => rfl
  | cons i a ih =>
    simp only [List.cons_append, runL]
    split
    · rfl
    · exact ih _
theorem froF_ok (f : List (ByteArray × Int)) : ∀ (ws : List ByteArray) (left : List Int) (k : Nat), (froF f left k ws).isSome = !okE (runL left (flS f ws))
  | [], left, k => by simp [froF, flS, runL, okE]
  | s :: r, left, k => by
    have e : flS f (s :: r) = sg f s ++ flS f r := by simp [flS]
    rw [e, runL_append]
    simp only [froF]
    cases h : runL left (sg f s) with
    | error i => simp [okE]
    | ok l => simp only; exact froF_ok f r l (k + 1)
theorem getD_set (l : List Int) (i j : Nat) (z : Int) (hi : i < l.length) : (l.set i z).getD j 0 = if j = i then z else l.getD j 0 := by
  rw [List.getD_eq_getElem?_getD, List.getD_eq_getElem?_getD, List.getElem?_set]
  by_cases h : i = j
  · subst h; simp [hi]
  · rw [if_neg h, if_neg (fun e => h e.symm)]
theorem runL_ok : ∀ (L : List Nat) (left : List Int), (∀ i ∈ L, i < left.length) → (∀ j, 0 ≤ left.getD j 0) → (okE (runL left L) = true ↔ ∀ i, ((L.count i : Nat) : Int) ≤ left.getD i 0)
  | [], left, _, h0 => by simp only [runL, okE, List.count_nil]; exact ⟨fun _ i => h0 i, fun _ => trivial⟩
  | i :: r, left, hm, h0 => by
    have hi : i < left.length := hm i (by simp)
    simp only [runL]
    by_cases hz : left.getD i 0 = 0
    · rw [if_pos hz]
      simp only [okE, Bool.false_eq_true, false_iff]
      intro h
      have := h i
      rw [hz, List.count_cons_self] at this
      omega
    · rw [if_neg hz]
      have hp := h0 i
      rw [runL_ok r _ (fun j hj => by rw [List.length_set]; exact hm j (by simp [hj])) (fun j => by rw [getD_set _ _ _ _ hi]; split; omega; exact h0 j)]
      constructor
      · intro h j
        have := h j
        rw [getD_set _ _ _ _ hi] at this
        rw [List.count_cons]
        by_cases hj : j = i
        · subst hj; simp at this ⊢; omega
        · rw [if_neg hj] at this
          rw [if_neg (by simpa using fun e => hj e.symm)]
          simpa using this
      · intro h j
        have := h j
        rw [List.count_cons] at this
        rw [getD_set _ _ _ _ hi]
        by_cases hj : j = i
        · subst hj; simp at this ⊢; omega
        · rw [if_neg hj]
          rw [if_neg (by simpa using fun e => hj e.symm)] at this
          simpa using this
theorem need_getD (f : List (ByteArray × Int)) (ws : List ByteArray) (i : Nat) : (needF f ws).getD i 0 = ((flS f ws).count i : Nat) := by
  rcases Nat.lt_or_ge i (needF f ws).length with h | h
  · rw [getD_of h]; exact cntL_get h
  · rw [List.getD_eq_getElem?_getD, List.getElem?_eq_none h]
    have hn : ¬ i ∈ flS f ws := fun hi => by have := flS_mem i hi; rw [needF_len] at h; omega
    rw [List.count_eq_zero_of_not_mem hn]; rfl
theorem enB_iff {need st : List Int} : enB need st = true ↔ ∀ i, i < need.length → need.getD i 0 ≤ st.getD i 0 := by
  unfold enB
  rw [List.all_eq_true]
  exact ⟨fun h i hi => of_decide_eq_true (h i (List.mem_range.2 hi)), fun h i hi => decide_eq_true (h i (List.mem_range.1 hi))⟩
theorem stock_nn {st : List Int} (h : allB 0 100000 st = true) (j : Nat) : 0 ≤ st.getD j 0 := by
  rcases Nat.lt_or_ge j st.length with h1 | h1
  · rw [getD_of h1]; exact (allB_at h1 h).1
  · rw [List.getD_eq_getElem?_getD, List.getElem?_eq_none h1]; exact Int.le_refl _
/-- A sort runs out just if the stock is not enough. -/
theorem fro_enough (f : List (ByteArray × Int)) (st : List Int) (ws : List ByteArray) : (frR f st ws).isSome = (askB f st ws && !(askB f st ws && enB (needF f ws) st)) := by
  cases h : askB f st ws with
  | false => rw [fr_no h]; rfl
  | true =>
    rw [fr_yes h, froF_ok]
    simp only [Bool.true_and]
    congr 1
    obtain ⟨h1, h2, _, _, _, h4⟩ := need_stock h
    rw [Bool.eq_iff_iff, runL_ok _ _ (fun i hi => by have := flS_mem i hi; omega) (stock_nn h4), enB_iff]
    constructor
    · intro h i hi; rw [need_getD]; exact h i
    · intro h i
      rcases Nat.lt_or_ge i (needF f ws).length with h3 | h3
      · rw [← need_getD]; exact h i h3
      · have hn : ¬ i ∈ flS f ws := fun hi => by have := flS_mem i hi; omega
        rw [List.count_eq_zero_of_not_mem hn]; exact stock_nn h4 i

theorem countP_succ (L : List Nat) (n : Nat) : L.countP (fun x => decide (x < n + 1)) = L.countP (fun x => decide (x < n)) + L.count n := by
  induction L with
  | nil => rfl
  | cons x L ih =>
    simp only [List.countP_cons, List.count_cons, ih, decide_eq_true_eq, beq_iff_eq]
    rcases Nat.lt_trichotomy x n with h | h | h
    · rw [if_pos (by omega), if_pos h, if_neg (by omega)]; omega
    · rw [if_pos (by omega), if_neg (by omega), if_pos h]; omega
    · rw [if_neg (by omega), if_neg (by omega), if_neg (by omega)]; omega
theorem cntL_sum (L : List Nat) : ∀ n, (cntL n L).sum = (L.countP (fun x => decide (x < n)) : Nat)
  | 0 => by simp [cntL]
  | n + 1 => by
    have ih := cntL_sum L n
    unfold cntL at *
    rw [List.range_succ, List.map_append, List.sum_append, ih, countP_succ]
    simp
theorem need_sum (f : List (ByteArray × Int)) (ws : List ByteArray) : (needF f ws).sum = ((flS f ws).length : Nat) := by
  unfold needF
  rw [cntL_sum, List.countP_eq_length.2 fun i hi => decide_eq_true (flS_mem i hi)]

theorem mul_cancel {a b c : Int} (hc : 0 < c) (h : a * c ≤ b * c) : a ≤ b := Int.le_of_mul_le_mul_right h hc
/-- The least row is not above any other. -/
theorem minK_le {rows : List Rw} (hp : ∀ r ∈ rows, 0 ≤ r.s ∧ 0 < r.n) : ∀ k, k < rows.length → ∀ j (hj : j < rows.length), j ≤ k → (minK rows k).s * rows[j].n ≤ rows[j].s * (minK rows k).n
  | 0, h, j, hj, hjk => by
    obtain rfl : j = 0 := by omega
    simp only [minK]
    rw [rows_getD h]
    exact Int.le_refl _
  | k + 1, h, j, hj, hjk => by
    have hm := hp _ (minK_mem k (by omega))
    have hx := hp _ (List.getElem_mem h)
    have hr := hp _ (List.getElem_mem hj)
    have ih := minK_le hp k (by omega)
    simp only [minK]
    rw [rows_getD h]
    unfold pickR
    generalize minK rows k = m at *
    by_cases hl : rows[k + 1].s * m.n < m.s * rows[k + 1].n
    · rw [if_pos hl]
      rcases Nat.lt_or_ge k j with h1 | h1
      · obtain rfl : j = k + 1 := by omega
        exact Int.le_refl _
      · have ihj := ih j hj h1
        generalize rows[k + 1] = x at *
        generalize rows[j] = r at *
        refine mul_cancel hm.2 ?_
        have e1 : x.s * r.n * m.n = x.s * m.n * r.n := Int.mul_right_comm _ _ _
        have e2 : r.s * x.n * m.n = r.s * m.n * x.n := Int.mul_right_comm _ _ _
        have e3 : m.s * x.n * r.n = m.s * r.n * x.n := Int.mul_right_comm _ _ _
        have h3 : x.s * m.n * r.n ≤ m.s * x.n * r.n := Int.mul_le_mul_of_nonneg_right (Int.le_of_lt hl) (Int.le_of_lt hr.2)
        have h4 : m.s * r.n * x.n ≤ r.s * m.n * x.n := Int.mul_le_mul_of_nonneg_right ihj (Int.le_of_lt hx.2)
        omega
    · rw [if_neg hl]
      rcases Nat.lt_or_ge k j with h1 | h1
      · obtain rfl : j = k + 1 := by omega
        omega
      · exact ih j hj h1
/-- What the least row tells: it is the row of a sort, and no sort is scarcer. -/
theorem sc_facts {f : List (ByteArray × Int)} {st : List Int} {ws : List ByteArray} {m : Rw} (h : scR f st ws = some m) :
    askB f st ws = true ∧ (∃ i, i < (needF f ws).length ∧ m.s = st.getD i 0 ∧ m.n = (needF f ws).getD i 0) ∧ (∀ i, i < (needF f ws).length → m.s * (needF f ws).getD i 0 ≤ st.getD i 0 * m.n) := by
  have hb := sc_bound h
  unfold scR at h
  split at h
  · rename_i ha
    simp only [Bool.and_eq_true] at ha
    obtain ⟨g1, g2, _, _, g3, g4⟩ := need_stock ha.1
    refine ⟨ha.1, ?_, fun i hi => ?_⟩
    · obtain ⟨i, hi, _, e1, e2, _⟩ := supTo_mem _ (lastMin_mem h)
      exact ⟨i, hi, e1, e2⟩
    · by_cases hz : (needF f ws).getD i 0 = 0
      · rw [hz, Int.mul_zero]
        exact Int.mul_nonneg (stock_nn g4 i) (by omega)
      · have hmem : ∀ k, i < k → (⟨(i : Int), st.getD i 0, (needF f ws).getD i 0⟩ : Rw) ∈ supTo (needF f ws) st k := by
          intro k
          induction k with
          | zero => intro h; omega
          | succ k ih =>
            intro hk
            simp only [supTo]
            rcases Nat.lt_or_ge i k with h1 | h1
            · split
              · exact ih h1
              · exact List.mem_append_left _ (ih h1)
            · obtain rfl : i = k := by omega
              rw [if_neg hz]; simp
        obtain ⟨j, hj, hje⟩ := List.getElem_of_mem (hmem _ hi)
        have hp : ∀ r ∈ supTo (needF f ws) st (needF f ws).length, 0 ≤ r.s ∧ 0 < r.n := fun r hr => by
          have hb := sup_bound ha.1 r hr
          obtain ⟨q, _, _, _, e2, hne⟩ := supTo_mem _ hr
          have : r.n ≠ 0 := by rw [e2]; exact hne
          omega
        unfold lastMin at h
        split at h
        · injection h with h
          have := minK_le hp ((supTo (needF f ws) st (needF f ws).length).length - 1) (by omega) j hj (by omega)
          rw [hje, h] at this
          exact this
        · cases h
  · cases h
theorem tim_enough {f : List (ByteArray × Int)} {st : List Int} {ws : List ByteArray} {m : Rw} (h : scR f st ws = some m) : (askB f st ws && enB (needF f ws) st) = decide (0 < m.s / m.n) := by
  obtain ⟨ha, ⟨i, hi, e1, e2⟩, hall⟩ := sc_facts h
  obtain ⟨⟨hs0, _⟩, ⟨hn0, _⟩⟩ := sc_bound h
  rw [ha, Bool.true_and, Bool.eq_iff_iff, enB_iff, decide_eq_true_eq]
  constructor
  · intro hen
    have := hen i hi
    have h1 : 1 ≤ m.s / m.n := (Int.le_ediv_iff_mul_le (by omega)).2 (by omega)
    omega
  · intro hq j hj
    have h1 : 1 * m.n ≤ m.s := (Int.le_ediv_iff_mul_le (by omega)).1 (by omega)
    have h2 := hall j hj
    obtain ⟨_, _, _, _, g3, _⟩ := need_stock ha
    have h3 : 0 ≤ (needF f ws).getD j 0 := by rw [getD_of hj]; exact (g3 j hj).1
    refine mul_cancel (c := m.n) (by omega) ?_
    have h4 : m.n * (needF f ws).getD j 0 ≤ m.s * (needF f ws).getD j 0 := Int.mul_le_mul_of_nonneg_right (by omega) h3
    rw [Int.mul_comm] at h4
    omega
theorem sum_zero {l : List Int} (h : ∀ x ∈ l, x = 0) : l.sum = 0 := by
  induction l with
  | nil => rfl
  | cons x l ih => rw [List.sum_cons, h x (by simp), ih fun y hy => h y (by simp [hy])]; rfl
theorem sum_nn {l : List Int} (h : ∀ x ∈ l, 0 ≤ x) : 0 ≤ l.sum := by
  induction l with
  | nil => exact Int.le_refl _
  | cons x l ih => rw [List.sum_cons]; have := h x (by simp); have := ih fun y hy => h y (by simp [hy]); omega
theorem sum_pos {l : List Int} (h : ∀ x ∈ l, 0 ≤ x) {y : Int} (hy : y ∈ l) (hp : 0 < y) : 0 < l.sum := by
  induction l with
  | nil => cases hy
  | cons x l ih =>
    rw [List.sum_cons]
    have h0 := h x (by simp)
    have h1 := sum_nn (l := l) fun z hz => h z (by simp [hz])
    rcases List.mem_cons.1 hy with rfl | hy
    · omega
    · have := ih (fun z hz => h z (by simp [hz])) hy
      omega
theorem mx0_nn (x : Int) : 0 ≤ mx0 x := by unfold mx0; split <;> omega
theorem rcL_nn {N S : List Int} {t : Int} : ∀ x ∈ rcL N S t, 0 ≤ x := fun x hx => by
  simp only [rcL, List.mem_map] at hx
  obtain ⟨i, _, rfl⟩ := hx
  exact mx0_nn _
/-- Nothing has to be cast as long as copy can be set so often; once more, and something has to be. -/
theorem rc_now {f : List (ByteArray × Int)} {st : List Int} {ws : List ByteArray} {m : Rw} (h : scR f st ws = some m) (ht : m.s / m.n < 1000) :
    ∃ r, rcR f st ws (m.s / m.n) = some r ∧ r.sum = 0 := by
  obtain ⟨ha, _, hall⟩ := sc_facts h
  obtain ⟨⟨hs0, _⟩, ⟨hn0, _⟩⟩ := sc_bound h
  have hq0 : 0 ≤ m.s / m.n := Int.ediv_nonneg hs0 (by omega)
  have hz : ∀ x ∈ rcL (needF f ws) st (m.s / m.n), x = 0 := fun x hx => by
    simp only [rcL, List.mem_map] at hx
    obtain ⟨i, hi, rfl⟩ := hx
    have hi' := List.mem_range.1 hi
    have h2 := hall i hi'
    obtain ⟨_, _, _, _, g3, _⟩ := need_stock ha
    have h3 : 0 ≤ (needF f ws).getD i 0 := by rw [getD_of hi']; exact (g3 i hi').1
    have h4 : m.s / m.n * m.n ≤ m.s := Int.ediv_mul_le _ (by omega)
    have h5 : m.s / m.n * (needF f ws).getD i 0 ≤ st.getD i 0 := by
      refine mul_cancel (c := m.n) (by omega) ?_
      have h6 : m.s / m.n * m.n * (needF f ws).getD i 0 ≤ m.s * (needF f ws).getD i 0 := Int.mul_le_mul_of_nonneg_right h4 h3
      rw [Int.mul_right_comm] at h6
      omega
    unfold mx0; split <;> omega
  refine ⟨_, rc_yes ha (by simp [inB]; omega) ?_, sum_zero hz⟩
  unfold allB
  rw [List.all_eq_true]
  intro x hx
  rw [hz x hx]; rfl
theorem rc_more {f : List (ByteArray × Int)} {st : List Int} {ws : List ByteArray} {m : Rw} {r : List Int} (h : scR f st ws = some m) (hr : rcR f st ws (m.s / m.n + 1) = some r) : 0 < r.sum := by
  obtain ⟨ha, ⟨i, hi, e1, e2⟩, _⟩ := sc_facts h
  obtain ⟨⟨hs0, _⟩, ⟨hn0, _⟩⟩ := sc_bound h
  unfold rcR at hr
  split at hr
  · injection hr with hr
    subst hr
    have hmem : mx0 ((m.s / m.n + 1) * (needF f ws).getD i 0 - st.getD i 0) ∈ rcL (needF f ws) st (m.s / m.n + 1) := by
      simp only [rcL, List.mem_map]
      exact ⟨i, List.mem_range.2 hi, rfl⟩
    refine sum_pos rcL_nn hmem ?_
    rw [← e1, ← e2]
    have h1 : m.s < (m.s / m.n + 1) * m.n := Int.lt_ediv_add_one_mul_self _ (by omega)
    unfold mx0; split <;> omega
  · cases hr
theorem rcR_bound {f : List (ByteArray × Int)} {st : List Int} {ws : List ByteArray} {t : Int} {r : List Int} (h : rcR f st ws t = some r) : allB 0 100000 r = true := by
  unfold rcR at h
  split at h
  · rename_i ha
    simp only [Bool.and_eq_true] at ha
    injection h with h; subst h; exact ha.2
  · cases h
end Go.Proofs.YtnbnegkoanidmaaGreatDoor.S1
