/-
  Plain words: numbers in increasing order, the greatest and the least, the least tolerance, drifts. (No function is named here.)
-/
import Derived.Test.YtbepgjknjopikaaYb
namespace Go.Proofs.Ytbepgjknjopikaa
open Go.RowKit
set_option linter.unusedVariables false

/-- In increasing order. -/
def srt (l : List Int) : List Int := l.mergeSort (fun x y => decide (x ≤ y))
theorem srt_perm (l : List Int) : (srt l).Perm l := List.mergeSort_perm _ _
theorem srt_len (l : List Int) : (srt l).length = l.length := (srt_perm l).length_eq
theorem srt_pw (l : List Int) : (srt l).Pairwise (fun x y => x ≤ y) := by
  have h := List.pairwise_mergeSort (le := fun x y : Int => decide (x ≤ y)) (fun a b c h1 h2 => by simp at h1 h2 ⊢; omega) (fun a b => by simp; omega) l
  exact h.imp (fun h => by simpa using h)
theorem srt_uniq {m l : List Int} (hp : m.Perm l) (hs : m.Pairwise (fun x y => x ≤ y)) : m = srt l :=
  List.Perm.eq_of_pairwise (fun a b _ _ h1 h2 => by omega) hs (srt_pw l) (hp.trans (srt_perm l).symm)
theorem srt_le (l : List Int) {i j : Nat} (hij : i ≤ j) (hj : j < (srt l).length) : (srt l)[i]'(by omega) ≤ (srt l)[j] := by
  rcases Nat.lt_or_ge i j with h | h
  · exact List.pairwise_iff_getElem.1 (srt_pw l) i j (by omega) hj h
  · obtain rfl : i = j := by omega
    exact Int.le_refl _
theorem srt_mem {l : List Int} {j : Nat} (h : j < (srt l).length) : (srt l)[j] ∈ l := (srt_perm l).mem_iff.1 (List.getElem_mem h)
theorem srt_nil : srt [] = [] := by simp [srt]
theorem ins_step {l : List Int} {x : Int} {k : Nat} (hk : k ≤ (srt l).length) (h1 : ∀ i (h : i < (srt l).length), i < k → (srt l)[i] < x) (h2 : ∀ h : k < (srt l).length, x ≤ (srt l)[k]) :
    (srt l).take k ++ [x] ++ (srt l).drop k = srt (l ++ [x]) := by
  apply srt_uniq
  · rw [List.append_assoc]
    refine List.perm_middle.trans ?_
    show (x :: ((srt l).take k ++ (srt l).drop k)).Perm _
    rw [List.take_append_drop]
    refine ((srt_perm l).cons x).trans ?_
    exact (List.perm_append_singleton x l).symm
  · have hp := srt_pw l
    rw [List.append_assoc, List.pairwise_append]
    refine ⟨hp.sublist (List.take_sublist _ _), ?_, ?_⟩
    · show (x :: (srt l).drop k).Pairwise _
      rw [List.pairwise_cons]
      refine ⟨fun y hy => ?_, hp.sublist (List.drop_sublist _ _)⟩
      obtain ⟨j, hj, rfl⟩ := List.mem_iff_getElem.1 hy
      rw [List.length_drop] at hj
      rw [List.getElem_drop]
      have ha := h2 (by omega)
      have hb := srt_le l (i := k) (j := k + j) (by omega) (by omega)
      omega
    · intro a ha b hb
      obtain ⟨i, hi, rfl⟩ := List.mem_iff_getElem.1 ha
      rw [List.length_take] at hi
      rw [List.getElem_take]
      have hx := h1 i (by omega) (by omega)
      rcases List.mem_cons.1 (show b ∈ x :: (srt l).drop k from hb) with rfl | hy
      · omega
      · obtain ⟨j, hj, rfl⟩ := List.mem_iff_getElem.1 hy
        rw [List.length_drop] at hj
        rw [List.getElem_drop]
        exact srt_le l (i := i) (j := k + j) (by omega) (by omega)
theorem srt_greatest {l : List Int} {m : Int} (h0 : 0 < l.length) (hm : m ∈ l) (h : ∀ x ∈ l, x ≤ m) : (srt l).getD (l.length - 1) 0 = m := by
  have hl := srt_len l
  rw [getD_at (by omega)]
  have h1 := h _ (srt_mem (l := l) (j := l.length - 1) (by omega))
  obtain ⟨j, hj, rfl⟩ := List.mem_iff_getElem.1 ((srt_perm l).mem_iff.2 hm)
  have h2 := srt_le l (i := j) (j := l.length - 1) (by omega) (by omega)
  omega
theorem srt_least {l : List Int} {m : Int} (h0 : 0 < l.length) (hm : m ∈ l) (h : ∀ x ∈ l, m ≤ x) : (srt l).getD 0 0 = m := by
  have hl := srt_len l
  rw [getD_at (by omega)]
  have h1 := h _ (srt_mem (l := l) (j := 0) (by omega))
  obtain ⟨j, hj, rfl⟩ := List.mem_iff_getElem.1 ((srt_perm l).mem_iff.2 hm)
  have h2 := srt_le l (i := 0) (j := j) (by omega) (by omega)
  omega
def sprV (l : List Int) : Int := if gaB l = true then (srt l).getD (l.length - 1) 0 - (srt l).getD 0 0 else 0
def medV (l : List Int) : Int := if gaB l = true then (srt l).getD ((l.length - 1) / 2) 0 else 0
def corI (lo hi : Int) : Int := if 0 < lo then -lo else if hi < 0 then -hi else 0
def corV (l : List Int) : Int := if gaB l = true then corI ((srt l).getD ((l.length - 1) / 2) 0) ((srt l).getD (l.length / 2) 0) else 0
theorem spr_no {l : List Int} (h : gaB l = false) : sprV l = 0 ∧ medV l = 0 ∧ corV l = 0 := by unfold sprV medV corV; rw [h]; simp
theorem spr_yes {l : List Int} (h : gaB l = true) : sprV l = (srt l).getD (l.length - 1) 0 - (srt l).getD 0 0 ∧ medV l = (srt l).getD ((l.length - 1) / 2) 0 ∧ corV l = corI ((srt l).getD ((l.length - 1) / 2) 0) ((srt l).getD (l.length / 2) 0) := by unfold sprV medV corV; rw [h]; simp
theorem corI_is {lo hi : Int} (h : lo ≤ hi) : min (max 0 (-hi)) (-lo) = corI lo hi := by unfold corI; split <;> (try split) <;> omega
theorem srt_range {l : List Int} (h : GoodT l) {j : Nat} (hj : j < l.length) : -500 ≤ (srt l).getD j 0 ∧ (srt l).getD j 0 ≤ 500 := by
  rw [getD_at (by rw [srt_len]; exact hj)]
  exact h.mem _ (srt_mem _)
theorem srt_mid {l : List Int} (h0 : 0 < l.length) : (srt l).getD ((l.length - 1) / 2) 0 ≤ (srt l).getD (l.length / 2) 0 := by
  have hl := srt_len l
  rw [getD_at (by omega), getD_at (by omega)]
  exact srt_le l (by omega) (by omega)

theorem outT_count (l : List Int) (m : Int) : ∀ k, k ≤ l.length → (outT l m k).length = (l.take k).countP (fun x => outB x m)
  | 0, _ => by simp [outT]
  | k + 1, hk => by
    have ih := outT_count l m k (by omega)
    rw [List.take_succ_eq_append_getElem (by omega), List.countP_append, List.countP_singleton, ← ih]
    cases h : outB (l[k]'(by omega)) m
    · rw [outT_no (by omega) h]; simp
    · rw [outT_yes (by omega) h]; simp
def absL (l : List Int) : List Int := l.map absI
theorem absL_len (l : List Int) : (absL l).length = l.length := by simp [absL]
theorem out_count (l : List Int) (m : Int) : (outT l m l.length).length = (srt (absL l)).countP (fun x => decide (m < x)) := by
  rw [outT_count l m l.length (Nat.le_refl _), List.take_length, (srt_perm (absL l)).countP_eq]
  unfold absL
  rw [List.countP_map]
  rfl
theorem count_sorted (l : List Int) {a : Nat} (ha : a < l.length) (m : Int) : (srt l).countP (fun x => decide (m < x)) ≤ a ↔ (srt l)[l.length - 1 - a]'(by rw [srt_len]; omega) ≤ m := by
  have hl := srt_len l
  constructor
  · intro h
    rcases Int.lt_or_le m ((srt l)[l.length - 1 - a]'(by omega)) with h1 | h1
    · exfalso
      have e : (srt l).countP (fun x => decide (m < x)) = ((srt l).take (l.length - 1 - a)).countP (fun x => decide (m < x)) + ((srt l).drop (l.length - 1 - a)).countP (fun x => decide (m < x)) := by
        rw [← List.countP_append, List.take_append_drop]
      have e2 : ((srt l).drop (l.length - 1 - a)).countP (fun x => decide (m < x)) = ((srt l).drop (l.length - 1 - a)).length := by
        rw [List.countP_eq_length]
        intro x hx
        obtain ⟨j, hj, rfl⟩ := List.mem_iff_getElem.1 hx
        rw [List.length_drop] at hj
        rw [List.getElem_drop]
        have := srt_le l (i := l.length - 1 - a) (j := l.length - 1 - a + j) (by omega) (by omega)
        simp; omega
      rw [List.length_drop] at e2
      omega
    · exact h1
  · intro h
    have e : (srt l).countP (fun x => decide (m < x)) = ((srt l).take (l.length - a)).countP (fun x => decide (m < x)) + ((srt l).drop (l.length - a)).countP (fun x => decide (m < x)) := by
      rw [← List.countP_append, List.take_append_drop]
    have e1 : ((srt l).take (l.length - a)).countP (fun x => decide (m < x)) = 0 := by
      rw [List.countP_eq_zero]
      intro x hx
      obtain ⟨j, hj, rfl⟩ := List.mem_iff_getElem.1 hx
      rw [List.length_take] at hj
      rw [List.getElem_take]
      have := srt_le l (i := j) (j := l.length - 1 - a) (by omega) (by omega)
      simp; omega
    have e2 := List.countP_le_length (p := fun x : Int => decide (m < x)) (l := (srt l).drop (l.length - a))
    rw [List.length_drop] at e2
    omega
def askT (l : List Int) (a : Int) : Bool := gaB l && inB 0 40 a
def tolV (l : List Int) (a : Int) : Int := if askT l a = true ∧ a < l.length then (srt (absL l)).getD (l.length - 1 - a.toNat) 0 else 0
theorem tolV_no {l : List Int} {a : Int} (h : askT l a = false) : tolV l a = 0 := by unfold tolV; rw [h]; simp
theorem tolV_all {l : List Int} {a : Int} (h : ¬ a < l.length) : tolV l a = 0 := by unfold tolV; rw [if_neg (fun h' => h h'.2)]
theorem tolV_yes {l : List Int} {a : Nat} (h : askT l (a : Int) = true) (ha : a < l.length) : tolV l (a : Int) = (srt (absL l)).getD (l.length - 1 - a) 0 := by
  unfold tolV; rw [if_pos ⟨h, by omega⟩]; rfl
theorem tol_is {l : List Int} {a t : Nat} (h : askT l (a : Int) = true) (h1 : (outT l (t : Int) l.length).length ≤ a) (h2 : ∀ j : Nat, j < t → a < (outT l (j : Int) l.length).length) : tolV l (a : Int) = (t : Int) := by
  by_cases ha : a < l.length
  · rw [tolV_yes h ha]
    have hl : (absL l).length = l.length := absL_len l
    have hq : ∀ m : Int, (outT l m l.length).length ≤ a ↔ (srt (absL l)).getD (l.length - 1 - a) 0 ≤ m := fun m => by
      have h3 := count_sorted (absL l) (a := a) (by omega) m
      rw [out_count, h3, getD_at (by rw [srt_len]; omega)]
      simp only [hl]
    have h0 : 0 ≤ (srt (absL l)).getD (l.length - 1 - a) 0 := by
      rw [getD_at (by rw [srt_len]; omega)]
      have hm := srt_mem (l := absL l) (j := l.length - 1 - a) (by rw [srt_len]; omega)
      obtain ⟨x, _, hx⟩ := List.mem_map.1 hm
      rw [← hx]; unfold absI; omega
    have h3 := (hq t).1 h1
    generalize (srt (absL l)).getD (l.length - 1 - a) 0 = q at *
    rcases Int.lt_or_le q (t : Int) with h4 | h4
    · have h5 := h2 q.toNat (by omega)
      have h6 := (hq ((q.toNat : Nat) : Int)).2 (by omega)
      omega
    · omega
  · rw [tolV_all (by omega)]
    cases t with
    | zero => rfl
    | succ t =>
      have h3 := h2 0 (by omega)
      have h4 := outT_len l ((0 : Nat) : Int) l.length
      omega
theorem out_500 {l : List Int} (h : GoodT l) : (outT l 500 l.length).length = 0 := by
  rw [outT_count l 500 l.length (Nat.le_refl _), List.take_length, List.countP_eq_zero]
  intro x hx
  have := h.mem x hx
  unfold outB absI
  simp; omega

/-- The way from number k - 1 to number k. -/
def stp (l : List Int) (k : Nat) : Int := sgn (l.getD k 0 - l.getD (k - 1) 0)
def okD (l : List Int) (i k : Nat) : Prop := stp l (i + 1) ≠ 0 ∧ stp l k = stp l (i + 1)
instance (l : List Int) (i k : Nat) : Decidable (okD l i k) := by unfold okD; infer_instance
def goD (l : List Int) (i k : Nat) : Nat → Nat
  | 0 => k - i
  | f + 1 => if okD l i k then goD l i (k + 1) f else k - i
/-- How many there are in the drift that begins at i. -/
def drD (l : List Int) (i : Nat) : Nat := goD l i (i + 1) (l.length - (i + 1))
def updD (s : Nat × Nat) (i n : Nat) : Nat × Nat := if s.2 < n then (i, n) else s
def ldF (l : List Int) : Nat → Nat × Nat
  | 0 => (0, 1)
  | i + 1 => updD (ldF l i) i (drD l i)
theorem goD_end (l : List Int) (i : Nat) {k : Nat} (h : ¬ k < l.length) : goD l i k (l.length - k) = k - i := by
  rw [show l.length - k = 0 from by omega]; rfl
theorem goD_yes {l : List Int} {i k : Nat} (h : k < l.length) (hk : okD l i k) : goD l i k (l.length - k) = goD l i (k + 1) (l.length - (k + 1)) := by
  rw [show l.length - k = (l.length - (k + 1)) + 1 from by omega]; show (if _ then _ else _) = _; rw [if_pos hk]
theorem goD_no {l : List Int} {i k : Nat} (h : k < l.length) (hk : ¬ okD l i k) : goD l i k (l.length - k) = k - i := by
  rw [show l.length - k = (l.length - (k + 1)) + 1 from by omega]; show (if _ then _ else _) = _; rw [if_neg hk]
theorem goD_ge (l : List Int) (i : Nat) : ∀ (f k : Nat), k - i ≤ goD l i k f
  | 0, k => Nat.le_refl _
  | f + 1, k => by
    show _ ≤ (if _ then _ else _)
    split
    · have := goD_ge l i f (k + 1); omega
    · exact Nat.le_refl _
theorem goD_le (l : List Int) (i : Nat) : ∀ (f k : Nat), goD l i k f ≤ k + f
  | 0, k => by show k - i ≤ _; omega
  | f + 1, k => by
    show (if _ then _ else _) ≤ _
    split
    · have := goD_le l i f (k + 1); omega
    · exact Nat.le_trans (Nat.sub_le _ _) (Nat.le_add_right _ _)
theorem drD_pos (l : List Int) (i : Nat) : 1 ≤ drD l i := by have := goD_ge l i (l.length - (i + 1)) (i + 1); unfold drD; omega
theorem drD_le {l : List Int} {i : Nat} (h : i < l.length) : drD l i ≤ l.length := by have := goD_le l i (l.length - (i + 1)) (i + 1); unfold drD; omega
theorem getD_drop (l : List Int) (i k : Nat) : (l.drop i).getD k 0 = l.getD (i + k) 0 := by
  rw [List.getD_eq_getElem?_getD, List.getD_eq_getElem?_getD, List.getElem?_drop]
theorem stp_drop (l : List Int) (i : Nat) {k : Nat} (hk : 1 ≤ k) : stp (l.drop i) k = stp l (i + k) := by
  unfold stp; rw [getD_drop, getD_drop, show i + k - 1 = i + (k - 1) from by omega]
theorem okD_drop (l : List Int) (i : Nat) {k : Nat} (hk : 1 ≤ k) : okD (l.drop i) 0 k ↔ okD l i (i + k) := by
  unfold okD; rw [stp_drop l i hk, stp_drop l i (Nat.le_refl 1)]
theorem goD_drop (l : List Int) (i : Nat) : ∀ (f k : Nat), 1 ≤ k → goD (l.drop i) 0 k f = goD l i (i + k) f
  | 0, k, _ => by show k - 0 = i + k - i; omega
  | f + 1, k, hk => by
    have h := okD_drop l i hk
    have ih := goD_drop l i f (k + 1) (by omega)
    show (if _ then _ else _) = (if _ then _ else _)
    by_cases hc : okD l i (i + k)
    · rw [if_pos hc, if_pos (h.2 hc)]; exact ih
    · rw [if_neg hc, if_neg (fun h' => hc (h.1 h'))]; omega
theorem drD_drop (l : List Int) (i : Nat) : drD (l.drop i) 0 = drD l i := by
  unfold drD
  rw [show (0 : Nat) + 1 = 1 from rfl, goD_drop l i _ 1 (Nat.le_refl _), List.length_drop, show l.length - i - 1 = l.length - (i + 1) from by omega]
theorem ldF_range {l : List Int} (h : 1 ≤ l.length) : ∀ k, k ≤ l.length → (ldF l k).1 ≤ l.length ∧ 1 ≤ (ldF l k).2 ∧ (ldF l k).2 ≤ l.length
  | 0, _ => ⟨Nat.zero_le _, Nat.le_refl _, h⟩
  | k + 1, hk => by
    have ih := ldF_range h k (by omega)
    have h1 := drD_le (l := l) (i := k) (by omega)
    have h2 := drD_pos l k
    show (updD _ _ _).1 ≤ _ ∧ 1 ≤ (updD _ _ _).2 ∧ (updD _ _ _).2 ≤ _
    unfold updD
    split
    · exact ⟨by show k ≤ _; omega, h2, h1⟩
    · exact ih
theorem upd_yes {s : Nat × Nat} {i n : Nat} (h : s.2 < n) : updD s i n = (i, n) := if_pos h
theorem upd_no {s : Nat × Nat} {i n : Nat} (h : ¬ s.2 < n) : updD s i n = s := if_neg h
theorem upd_more {s : Nat × Nat} {i n : Nat} : updD (updD s i n) i (n + 1) = updD s i (n + 1) := by
  unfold updD
  by_cases h : s.2 < n
  · rw [if_pos h, if_pos (by show n < n + 1; omega), if_pos (by omega)]
  · rw [if_neg h]
theorem ldF_first (l : List Int) : ldF l 1 = (0, drD l 0) := by
  have := drD_pos l 0
  show updD (0, 1) 0 (drD l 0) = _
  unfold updD
  split
  · rfl
  · rename_i h
    have : ¬ 1 < drD l 0 := h
    rw [show drD l 0 = 1 from by omega]
def ldA (l : List Int) : Int := if gaB l = true then ((ldF l l.length).1 : Int) else 0
def ldN (l : List Int) : Int := if gaB l = true then ((ldF l l.length).2 : Int) else 0
theorem ld_no {l : List Int} (h : gaB l = false) : ldA l = 0 ∧ ldN l = 0 := by unfold ldA ldN; rw [h]; simp
theorem ld_yes {l : List Int} (h : gaB l = true) : ldA l = ((ldF l l.length).1 : Int) ∧ ldN l = ((ldF l l.length).2 : Int) := by unfold ldA ldN; rw [h]; simp
theorem sgn_cases (x : Int) : sgn x = 1 ∨ sgn x = 0 ∨ sgn x = -1 := by unfold sgn; split <;> (try split) <;> simp
/-- The mean. -/
def sumL (l : List Int) (k : Nat) : Int := (l.take k).sum
theorem sumL_succ {l : List Int} {k : Nat} (h : k < l.length) : sumL l (k + 1) = sumL l k + l[k] := by
  unfold sumL; rw [List.take_succ_eq_append_getElem h, List.sum_append]; simp
theorem sumL_range {l : List Int} (h : GoodT l) : ∀ k, k ≤ l.length → -(500 * (k : Int)) ≤ sumL l k ∧ sumL l k ≤ 500 * (k : Int)
  | 0, _ => by simp [sumL]
  | k + 1, hk => by
    have h1 := sumL_range h k (by omega)
    have h2 := h.all k (by omega)
    rw [sumL_succ (by omega)]
    omega
def gcdL (l : List Int) : Nat := Nat.gcd (sumL l l.length).natAbs l.length
def meanA (l : List Int) : Int := if gaB l = true then (sumL l l.length).tdiv (gcdL l) else 0
def meanB (l : List Int) : Int := if gaB l = true then ((l.length / gcdL l : Nat) : Int) else 0
theorem mean_no {l : List Int} (h : gaB l = false) : meanA l = 0 ∧ meanB l = 0 := by unfold meanA meanB; rw [h]; simp
theorem mean_yes {l : List Int} (h : gaB l = true) : meanA l = (sumL l l.length).tdiv (gcdL l) ∧ meanB l = ((l.length / gcdL l : Nat) : Int) := by unfold meanA meanB; rw [h]; simp
theorem gcd_step {a b : Nat} (hb : 0 < b) : Nat.gcd b (a % b) = Nat.gcd a b := by rw [Nat.gcd_comm b, ← Nat.gcd_rec, Nat.gcd_comm]
theorem gcdL_pos {l : List Int} (h : 1 ≤ l.length) : 1 ≤ gcdL l := Nat.gcd_pos_of_pos_right _ (by omega)
theorem gcdL_le {l : List Int} (h : 1 ≤ l.length) : gcdL l ≤ l.length := Nat.le_of_dvd (by omega) (Nat.gcd_dvd_right _ _)
end Go.Proofs.Ytbepgjknjopikaa
