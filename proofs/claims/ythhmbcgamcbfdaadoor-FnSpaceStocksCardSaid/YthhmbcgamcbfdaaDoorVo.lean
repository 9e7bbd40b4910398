/-
  Plain words on the fewest spaces, taken from the widest kind on. (No function is named here.)
-/
import Derived.Test.YthhmbcgamcbfdaaDoorVb
namespace Go.Proofs.YthhmbcgamcbfdaaDoor
open Go.RowKit
set_option linter.unusedVariables false

/-- c of the width v belong to a fewest filling of n. -/
def UseP (ks : List Int) (n v : Int) (c : Nat) : Prop := (c : Int) * v ≤ n ∧ Can ks (n - c * v) ∧ fewV ks (n - c * v) + c = fewV ks n
theorem can_add {ks : List Int} {v n : Int} (hv : v ∈ ks) (c : Nat) (h : Can ks (n - c * v)) : Can ks n := by
  obtain ⟨m, h⟩ := h
  have := rep_many hv h c
  rw [show n - c * v + c * v = n from by omega] at this
  exact ⟨_, this⟩
theorem few_tri {ks : List Int} {v n : Int} (hv : v ∈ ks) (c : Nat) (h : Can ks (n - c * v)) : fewV ks n ≤ fewV ks (n - c * v) + c := by
  obtain ⟨m, hm, hr, _⟩ := fewV_yes h
  have h1 := rep_many hv hr c
  rw [show n - c * v + c * v = n from by omega] at h1
  have := fewV_le h1
  rw [hm]; omega
theorem use_zero {ks : List Int} {n v : Int} (hp : Pos ks) (h : Can ks n) : UseP ks n v 0 := by
  have := can_nonneg hp h
  refine ⟨by simpa using this, by simpa using h, by simp⟩
theorem cadd (a b : Nat) (v : Int) : ((a + b : Nat) : Int) * v = a * v + b * v := by rw [Int.natCast_add, Int.add_mul]
theorem use_join {ks : List Int} {n v : Int} {a b : Nat} (h1 : UseP ks n v a) (h2 : UseP ks (n - a * v) v b) : UseP ks n v (a + b) := by
  obtain ⟨p1, p2, p3⟩ := h1
  obtain ⟨q1, q2, q3⟩ := h2
  have e := cadd a b v
  have e2 : n - ((a + b : Nat) : Int) * v = n - a * v - b * v := by omega
  refine ⟨by omega, by rw [e2]; exact q2, by rw [e2]; omega⟩
theorem use_down {ks : List Int} {n v : Int} (hv : v ∈ ks) (hv1 : 1 ≤ v) {c : Nat} (h : UseP ks n v (c + 1)) : UseP ks n v c := by
  obtain ⟨p1, p2, p3⟩ := h
  have e := cadd c 1 v
  have e2 : n - ((c + 1 : Nat) : Int) * v = n - c * v - (1 : Nat) * v := by omega
  rw [e2] at p2 p3
  have h1 := can_add hv 1 p2
  have h2 := few_tri hv 1 p2
  have h3 := few_tri hv c h1
  refine ⟨by simp at e; omega, h1, by omega⟩
theorem use_le {ks : List Int} {n v : Int} (hv : v ∈ ks) (hv1 : 1 ≤ v) {a : Nat} : ∀ d : Nat, UseP ks n v (a + d) → UseP ks n v a
  | 0, h => h
  | d + 1, h => use_le hv hv1 d (use_down hv hv1 h)
theorem use_bound {ks : List Int} {n v : Int} (hv1 : 1 ≤ v) {c : Nat} (h : UseP ks n v c) : c ≤ n.toNat := by
  have := nat_mul_nonneg hv1 c
  have := h.1
  omega
open Classical in
/-- The most of the width v that belong to a fewest filling of n. -/
noncomputable def useC (ks : List Int) (n v : Int) : Nat := if h : ∃ m, UseP ks n v m ∧ ∀ k, UseP ks n v k → k ≤ m then Classical.choose h else 0
theorem useC_spec {ks : List Int} {n v : Int} (hp : Pos ks) (hv1 : 1 ≤ v) (h : Can ks n) : UseP ks n v (useC ks n v) ∧ ∀ k, UseP ks n v k → k ≤ useC ks n v := by
  have hh : ∃ m, UseP ks n v m ∧ ∀ k, UseP ks n v k → k ≤ m := great_ex n.toNat ⟨0, use_zero hp h⟩ (fun c hc => use_bound hv1 hc)
  unfold useC
  rw [dif_pos hh]
  exact Classical.choose_spec hh
theorem useC_eq {ks : List Int} {n v : Int} (hp : Pos ks) (hv : v ∈ ks) {c : Nat} (h : UseP ks n v c) (hn : ¬ UseP ks n v (c + 1)) : useC ks n v = c := by
  have hv1 := hp v hv
  have hc : Can ks n := can_add hv c h.2.1
  obtain ⟨h1, h2⟩ := useC_spec hp hv1 hc
  have h3 := h2 c h
  rcases Nat.lt_or_ge c (useC ks n v) with h4 | h4
  · obtain ⟨d, hd⟩ : ∃ d, useC ks n v = c + 1 + d := ⟨useC ks n v - (c + 1), by omega⟩
    rw [hd] at h1
    exact absurd (use_le hv hv1 d h1) hn
  · omega
/-- One more is in it just if the table says that it saves one. -/
theorem use_next {ks : List Int} {n v : Int} (hp : Pos ks) (hv : v ∈ ks) (h4 : n ≤ 400) {c : Nat} (h : UseP ks n v c) : (v ≤ n - c * v ∧ fewW ks (n - c * v - v) < fewW ks (n - c * v)) ↔ UseP ks n v (c + 1) := by
  have e := cadd c 1 v
  have e1 : ((1 : Nat) : Int) * v = v := by simp
  have e2 : n - ((c + 1 : Nat) : Int) * v = n - c * v - v := by omega
  have hv1 := hp v hv
  have hcv := nat_mul_nonneg hv1 c
  obtain ⟨p1, p2, p3⟩ := h
  have hr := fewV_range hp (n := n - c * v) (by omega)
  constructor
  · rintro ⟨h1, h2⟩
    rw [fewW_can p2] at h2
    have h3 : Can ks (n - c * v - v) := by
      rcases Classical.em (Can ks (n - c * v - v)) with h3 | h3
      · exact h3
      · rw [fewW_no h3] at h2; omega
    rw [fewW_can h3] at h2
    have h5 := few_tri hv 1 (n := n - c * v) (by simpa using h3)
    simp at h5
    exact ⟨by omega, by rw [e2]; exact h3, by rw [e2]; omega⟩
  · rintro ⟨q1, q2, q3⟩
    rw [e2] at q2 q3
    refine ⟨by omega, ?_⟩
    rw [fewW_can p2, fewW_can q2]; omega
/-- A fewest filling of what is left is part of one of all. -/
theorem use_other {ks : List Int} {n v u : Int} {a : Nat} (hv : v ∈ ks) (hu : u ∈ ks) (h1 : UseP ks n v a) (h2 : UseP ks (n - a * v) u 1) (hv1 : 1 ≤ v) : UseP ks n u 1 := by
  obtain ⟨p1, p2, p3⟩ := h1
  obtain ⟨q1, q2, q3⟩ := h2
  have ha := nat_mul_nonneg hv1 a
  have e : n - a * v - (1 : Nat) * u = n - (1 : Nat) * u - a * v := by omega
  have h3 : Can ks (n - (1 : Nat) * u) := can_add hv a (by rw [← e]; exact q2)
  have h4 := few_tri hv a (n := n - (1 : Nat) * u) (by rw [← e]; exact q2)
  rw [← e] at h4
  have h5 := few_tri hu 1 h3
  exact ⟨by omega, h3, by omega⟩
/-- Behind the kinds from k on: no fewest filling has one of them. -/
def LeftP (ks : List Int) (k : Nat) (n : Int) : Prop := Can ks n ∧ ∀ j (hj : j < ks.length), k ≤ j → ¬ UseP ks n ks[j] 1
theorem left_start {ks : List Int} {n : Int} (h : Can ks n) : LeftP ks ks.length n := ⟨h, fun j hj hk => absurd hj (by omega)⟩
theorem left_step {ks : List Int} (hp : Pos ks) {k : Nat} (hk : k < ks.length) {n : Int} (h : LeftP ks (k + 1) n) : LeftP ks k (n - (useC ks n ks[k] : Int) * ks[k]) := by
  have hv := List.getElem_mem hk
  have hv1 := hp _ hv
  obtain ⟨h1, h2⟩ := useC_spec hp hv1 h.1
  refine ⟨h1.2.1, fun j hj hkj hu => ?_⟩
  rcases Nat.lt_or_ge k j with h3 | h3
  · exact h.2 j hj h3 (use_other hv (List.getElem_mem hj) h1 hu hv1)
  · obtain rfl : j = k := by omega
    have := h2 _ (use_join h1 hu)
    omega
theorem left_rep {ks : List Int} (hp : Pos ks) {k : Nat} : ∀ (m : Nat) (n : Int), Rep ks m n → (m : Int) = fewV ks n → (∀ j (hj : j < ks.length), k ≤ j → ¬ UseP ks n ks[j] 1) → Rep (ks.take k) m n
  | 0, n, h, _, _ => h
  | m + 1, n, ⟨v, hv, h⟩, hm, hno => by
    have hv1 := hp v hv
    have hc : Can ks (n - (1 : Nat) * v) := ⟨m, by simpa using h⟩
    have h1 := few_tri hv 1 hc
    have h2 := fewV_le h
    have e : n - ((1 : Nat) : Int) * v = n - v := by simp
    rw [e] at h1 hc
    have hrl := rep_le hp h
    have hu : UseP ks n v 1 := ⟨by simp; omega, by rw [e]; exact hc, by rw [e]; omega⟩
    obtain ⟨j, hj, rfl⟩ := List.mem_iff_getElem.1 hv
    have hjk : j < k := by
      rcases Nat.lt_or_ge j k with h3 | h3
      · exact h3
      · exact absurd hu (hno j hj h3)
    refine ⟨ks[j], List.mem_take_iff_getElem.2 ⟨j, by omega, rfl⟩, left_rep hp m _ h (by omega) (fun i hi hki hui => hno i hi hki ?_)⟩
    exact use_other hv (List.getElem_mem hi) hu (by rw [e]; exact hui) hv1
/-- c of kind k leave a sum of the thinner ones that needs no space too many. -/
def OptP (ks : List Int) (k : Nat) (n v : Int) (c : Nat) : Prop := 0 ≤ fewV (ks.take k) (n - c * v) ∧ fewV (ks.take k) (n - c * v) + c = fewV ks n
theorem opt_use {ks : List Int} (hp : Pos ks) {k : Nat} {n v : Int} (hv : v ∈ ks) {c : Nat} (h : OptP ks k n v c) : UseP ks n v c := by
  obtain ⟨h1, h2⟩ := h
  obtain ⟨m, hm, hr, _⟩ := fewV_yes (fewV_can.1 h1)
  have hr' := rep_sub (fun j hj => List.mem_of_mem_take hj) hr
  have h3 := fewV_le hr'
  have h4 := few_tri hv c ⟨m, hr'⟩
  have h5 := can_nonneg hp ⟨m, hr'⟩
  exact ⟨by omega, ⟨m, hr'⟩, by omega⟩
theorem opt_useC {ks : List Int} (hp : Pos ks) {k : Nat} (hk : k < ks.length) {n : Int} (h : LeftP ks (k + 1) n) : OptP ks k n ks[k] (useC ks n ks[k]) := by
  have hv1 := hp _ (List.getElem_mem hk)
  obtain ⟨h1, h2⟩ := left_step hp hk h
  obtain ⟨m, hm, hr, hl⟩ := fewV_yes h1
  have h3 := left_rep hp m _ hr hm.symm h2
  have h4 : fewV (ks.take k) (n - (useC ks n ks[k] : Int) * ks[k]) = m := fewV_eq h3 (fun j hj => hl j (rep_sub (fun i hi => List.mem_of_mem_take hi) hj))
  have h5 := (useC_spec hp hv1 h.1).1.2.2
  unfold OptP
  rw [h4]
  exact ⟨by omega, by omega⟩
theorem opt_le {ks : List Int} (hp : Pos ks) {k : Nat} {n v : Int} (hv : v ∈ ks) {c : Nat} (h : OptP ks k n v c) : c ≤ useC ks n v := by
  have hu := opt_use hp hv h
  exact (useC_spec hp (hp v hv) (can_add hv c hu.2.1)).2 c hu

/-- What is left behind the k widest kinds. -/
noncomputable def remF (ks : List Int) (N : Int) : Nat → Int
  | 0 => N
  | k + 1 => remF ks N k - (useC ks (remF ks N k) (ks.getD (ks.length - 1 - k) 0) : Int) * ks.getD (ks.length - 1 - k) 0
noncomputable def cntF (ks : List Int) (N : Int) (i : Nat) : Nat := useC ks (remF ks N (ks.length - 1 - i)) (ks.getD i 0)
theorem getD_of {ks : List Int} {i : Nat} (h : i < ks.length) : ks.getD i 0 = ks[i] := by rw [List.getD_eq_getElem?_getD, List.getElem?_eq_getElem h]; rfl
theorem rem_left {ks : List Int} (hp : Pos ks) {N : Int} (h : Can ks N) : ∀ k : Nat, k ≤ ks.length → LeftP ks (ks.length - k) (remF ks N k)
  | 0, _ => left_start h
  | k + 1, hk => by
    have ih := rem_left hp h k (by omega)
    have hj : ks.length - 1 - k < ks.length := by omega
    have e : ks.length - k = (ks.length - 1 - k) + 1 := by omega
    rw [e] at ih
    have := left_step hp hj ih
    show LeftP ks (ks.length - (k + 1)) (remF ks N k - (useC ks (remF ks N k) (ks.getD (ks.length - 1 - k) 0) : Int) * ks.getD (ks.length - 1 - k) 0)
    rw [getD_of hj, show ks.length - (k + 1) = ks.length - 1 - k from by omega]
    exact this
/-- The counts of the fewest spaces. -/
noncomputable def fewL (ks : List Int) (n : Int) : List Int := if wAsk ks n && canB ks n then (List.range ks.length).map (fun i => (cntF ks n i : Int)) else []
theorem fewL_no {ks : List Int} {n : Int} (h : (wAsk ks n && canB ks n) = false) : fewL ks n = [] := by unfold fewL; rw [h]; rfl
theorem fewL_yes {ks : List Int} {n : Int} (h : (wAsk ks n && canB ks n) = true) : fewL ks n = (List.range ks.length).map (fun i => (cntF ks n i : Int)) := by unfold fewL; rw [h]; rfl
theorem fewL_len (ks : List Int) (n : Int) : (fewL ks n).length ≤ 1048576 := by
  cases h : wAsk ks n && canB ks n
  · rw [fewL_no h]; simp
  · rw [fewL_yes h]
    have := (wAsk_iff.1 (Bool.and_eq_true_iff.1 h).1).1.six
    simp; omega
end Go.Proofs.YthhmbcgamcbfdaaDoor
