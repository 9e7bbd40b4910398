/-
  The least starts of a table in plain words, and their bounds; the mirrored table and the latest starts.
-/
import Derived.Test.YteagclokobkigaaEb
namespace Go.Proofs.Yteagclokobkigaa
open Go.RowKit
set_option linter.unusedVariables false

/-- What an entry asks of the end of the column before number k. -/
def stp (T : Nat → Int) (k : Int) (a : Int) (x : En) : Int := if x.col + x.spa = k then max a (T x.col.toNat + x.wid) else a
def endF (T : Nat → Int) (k : Int) (l : List En) (a : Int) : Int := l.foldl (stp T k) a
/-- The table of the first k starts and one more. -/
def stTab (l : List En) (g : Int) : Nat → List Int
  | 0 => [0]
  | k + 1 => stTab l g k ++ [endF (fun j => (stTab l g k).getD j 0) ((k + 1 : Nat) : Int) l ((stTab l g k).getD k 0) + g]
theorem stTab_len (l : List En) (g : Int) : ∀ k, (stTab l g k).length = k + 1
  | 0 => rfl
  | k + 1 => by rw [stTab, List.length_append, stTab_len l g k]; rfl
/-- The least start of column k. -/
def stV (l : List En) (g : Int) (k : Nat) : Int := (stTab l g k).getD k 0
theorem stTab_at (l : List En) (g : Int) : ∀ (k j : Nat), j ≤ k → (stTab l g k).getD j 0 = stV l g j
  | 0, j, h => by obtain rfl : j = 0 := by omega
                  rfl
  | k + 1, j, h => by
    rcases Nat.lt_or_ge j (k + 1) with h1 | h1
    · rw [← stTab_at l g k j (by omega), stTab, List.getD_eq_getElem?_getD, List.getElem?_append_left (by rw [stTab_len]; omega), ← List.getD_eq_getElem?_getD]
    · obtain rfl : j = k + 1 := by omega
      rfl
/-- The least end of column k. -/
def enV (l : List En) (g : Int) (k : Nat) : Int := endF (stV l g) ((k + 1 : Nat) : Int) l (stV l g k)
theorem endF_cong {T T' : Nat → Int} {k : Int} : ∀ {l : List En} {a : Int}, (∀ x ∈ l, x.col + x.spa = k → T x.col.toNat = T' x.col.toNat) → endF T k l a = endF T' k l a
  | [], _, _ => rfl
  | x :: r, a, h => by
    have e : stp T k a x = stp T' k a x := by
      unfold stp
      by_cases h1 : x.col + x.spa = k
      · rw [if_pos h1, if_pos h1, h x (by simp) h1]
      · rw [if_neg h1, if_neg h1]
    show endF T k r (stp T k a x) = endF T' k r (stp T' k a x)
    rw [e]
    exact endF_cong fun y hy h2 => h y (by simp [hy]) h2
/-- Every entry is one of a table. -/
def AllOk (n : Int) (l : List En) : Prop := ∀ x ∈ l, EnOk n x
theorem GoodT.all {n : Int} {l : List En} (h : GoodT n l) : AllOk n l := fun x hx => by
  obtain ⟨j, hj, rfl⟩ := List.mem_iff_getElem.1 hx
  exact h.en hj
theorem stV_zero (l : List En) (g : Int) : stV l g 0 = 0 := rfl
theorem stV_succ {n : Int} {l : List En} (h : AllOk n l) (g : Int) (k : Nat) : stV l g (k + 1) = enV l g k + g := by
  have e : stV l g (k + 1) = endF (fun j => (stTab l g k).getD j 0) ((k + 1 : Nat) : Int) l ((stTab l g k).getD k 0) + g := by
    show (stTab l g (k + 1)).getD (k + 1) 0 = _
    rw [stTab, List.getD_eq_getElem?_getD, List.getElem?_append_right (by rw [stTab_len]; omega), stTab_len, Nat.sub_self]
    rfl
  rw [e]
  unfold enV
  congr 1
  refine endF_cong fun x hx h1 => ?_
  have ho := h x hx
  exact stTab_at l g k _ (by have := ho.s0; have := ho.c0; omega)
/-- The first i entries. -/
def enK (l : List En) (g : Int) (k i : Nat) : Int := endF (stV l g) ((k + 1 : Nat) : Int) (l.take i) (stV l g k)
theorem enK_zero (l : List En) (g : Int) (k : Nat) : enK l g k 0 = stV l g k := rfl
theorem enK_all (l : List En) (g : Int) (k : Nat) : enK l g k l.length = enV l g k := by unfold enK enV; rw [List.take_length]
theorem enK_succ {l : List En} {i : Nat} (g : Int) (k : Nat) (h : i < l.length) : enK l g k (i + 1) = stp (stV l g) ((k + 1 : Nat) : Int) (enK l g k i) l[i] := by
  unfold enK endF
  rw [List.take_succ_eq_append_getElem h, List.foldl_append]
  rfl
theorem enK_yes {l : List En} {i : Nat} {g : Int} {k : Nat} (h : i < l.length) (h1 : l[i].col + l[i].spa = (k : Int) + 1) : enK l g k (i + 1) = max (enK l g k i) (stV l g l[i].col.toNat + l[i].wid) := by
  rw [enK_succ g k h]; unfold stp; rw [if_pos (by omega)]
theorem enK_no {l : List En} {i : Nat} {g : Int} {k : Nat} (h : i < l.length) (h1 : ¬ l[i].col + l[i].spa = (k : Int) + 1) : enK l g k (i + 1) = enK l g k i := by
  rw [enK_succ g k h]; unfold stp; rw [if_neg (by omega)]
/-- Bounds. -/
theorem endF_bd {T : Nat → Int} {k a m : Int} : ∀ {l : List En}, (∀ x ∈ l, x.col + x.spa = k → T x.col.toNat + x.wid ≤ m) → a ≤ m → a ≤ endF T k l a ∧ endF T k l a ≤ m
  | [], _, h => ⟨Int.le_refl _, h⟩
  | x :: r, h1, h => by
    have e : a ≤ stp T k a x ∧ stp T k a x ≤ m := by
      unfold stp
      by_cases h2 : x.col + x.spa = k
      · rw [if_pos h2]; have := h1 x (by simp) h2; omega
      · rw [if_neg h2]; omega
    have ih := endF_bd (T := T) (k := k) (a := stp T k a x) (m := m) (l := r) (fun y hy h2 => h1 y (by simp [hy]) h2) e.2
    show a ≤ endF T k r (stp T k a x) ∧ endF T k r (stp T k a x) ≤ m
    omega
theorem stV_bd {n : Int} {l : List En} (h : AllOk n l) {g : Int} (h0 : 0 ≤ g) (h36 : g ≤ 36) : ∀ (k : Nat), (0 ≤ stV l g k ∧ stV l g k ≤ 636 * (k : Int)) ∧ ∀ j, j ≤ k → stV l g j ≤ stV l g k
  | 0 => ⟨⟨Int.le_refl _, by rw [stV_zero]; simp⟩, fun j hj => by obtain rfl : j = 0 := by omega
                                                                  exact Int.le_refl _⟩
  | k + 1 => by
    have hb := stV_bd h h0 h36 k
    have e := stV_succ h g k
    have hm := endF_bd (T := stV l g) (k := ((k + 1 : Nat) : Int)) (a := stV l g k) (m := 636 * (k : Int) + 600) (l := l) (fun x hx hk => by
      have ho := h x hx
      have h1 := hb.2 x.col.toNat (by have := ho.s0; have := ho.c0; omega)
      have := ho.w1
      have := hb.1.2
      omega) (by have := hb.1.2; omega)
    change stV l g k ≤ enV l g k ∧ enV l g k ≤ _ at hm
    have h2 : ((k + 1 : Nat) : Int) = (k : Int) + 1 := by omega
    refine ⟨⟨by have := hb.1.1; omega, by rw [h2]; have := hb.1.2; omega⟩, fun j hj => ?_⟩
    rcases Nat.lt_or_ge j (k + 1) with h3 | h3
    · have := hb.2 j (by omega); omega
    · obtain rfl : j = k + 1 := by omega
      exact Int.le_refl _
/-- The bounds of the starts of a table, and of what its columns' ends are on the way. -/
theorem stV_all {n : Int} {l : List En} (h : AllOk n l) {g : Int} (h0 : 0 ≤ g) (h36 : g ≤ 36) {k : Nat} (hk : k ≤ 10) : 0 ≤ stV l g k ∧ stV l g k ≤ 6360 := by
  have := (stV_bd h h0 h36 k).1; omega
theorem enK_bd {n : Int} {l : List En} (h : AllOk n l) {g : Int} (h0 : 0 ≤ g) (h36 : g ≤ 36) {k : Nat} (hk : k < 10) (i : Nat) : stV l g k ≤ enK l g k i ∧ enK l g k i ≤ 6960 := by
  have hm := endF_bd (T := stV l g) (k := ((k + 1 : Nat) : Int)) (a := stV l g k) (m := 6960) (l := l.take i) (fun x hx hk2 => by
    have ho := h x (List.mem_of_mem_take hx)
    have h1 := (stV_bd h h0 h36 k).2 x.col.toNat (by have := ho.s0; have := ho.c0; omega)
    have := stV_all h h0 h36 (k := k) (by omega)
    have := ho.w1
    omega) (by have := stV_all h h0 h36 (k := k) (by omega); omega)
  exact hm
theorem enV_bd {n : Int} {l : List En} (h : AllOk n l) {g : Int} (h0 : 0 ≤ g) (h36 : g ≤ 36) {k : Nat} (hk : k < 10) : stV l g k ≤ enV l g k ∧ enV l g k ≤ 6960 := by
  rw [← enK_all]; exact enK_bd h h0 h36 hk _

/-- The least width of a table. -/
def wdV (l : List En) (g : Int) (n : Int) : Int := stV l g n.toNat - g
/-- The width is not less than 0. -/
theorem lastWd {N : Nat} {l : List En} (h : GoodT (N : Int) l) {g : Int} (h0 : 0 ≤ g) (h36 : g ≤ 36) (hN : 1 ≤ N) : 0 ≤ wdV l g (N : Int) := by
  obtain ⟨k, rfl⟩ : ∃ k, N = k + 1 := ⟨N - 1, by omega⟩
  unfold wdV
  rw [Int.toNat_natCast, stV_succ h.all]
  have hk : k < 10 := by have := h.n1; omega
  have h1 := enV_bd h.all h0 h36 hk
  have h2 := stV_all h.all h0 h36 (k := k) (by omega)
  omega
/-- The starts of the first k columns, the widths, the ends. -/
def stL (l : List En) (g : Int) (k : Nat) : List Int := (List.range k).map (stV l g)
def enL (l : List En) (g : Int) (k : Nat) : List Int := (List.range k).map (enV l g)
def wdL (l : List En) (g : Int) (k : Nat) : List Int := (List.range k).map fun j => enV l g j - stV l g j
theorem rng_len {α : Type} (f : Nat → α) (k : Nat) : ((List.range k).map f).length = k := by simp
theorem rng_at {α : Type} (f : Nat → α) {k j : Nat} (h : j < ((List.range k).map f).length) : ((List.range k).map f)[j] = f j := by simp
theorem rng_succ {α : Type} (f : Nat → α) (k : Nat) : (List.range (k + 1)).map f = (List.range k).map f ++ [f k] := by rw [List.range_succ, List.map_append]; rfl

/-- The mirrored entry. -/
def miE (n : Int) (x : En) : En := ⟨n - x.col - x.spa, x.spa, x.wid⟩
def miL (n : Int) (l : List En) : List En := l.map (miE n)
theorem miE_ok {n : Int} {x : En} (h : EnOk n x) : EnOk n (miE n x) := by
  obtain ⟨a, b, c, d, e, f⟩ := h
  exact ⟨by show 0 ≤ n - x.col - x.spa; omega, by show n - x.col - x.spa ≤ n - 1; omega, c, by show x.spa ≤ n - (n - x.col - x.spa); omega, e, f⟩
theorem miL_ok {n : Int} {l : List En} (h : AllOk n l) : AllOk n (miL n l) := fun x hx => by
  obtain ⟨y, hy, rfl⟩ := List.mem_map.1 hx
  exact miE_ok (h y hy)
theorem miL_len (n : Int) (l : List En) : (miL n l).length = l.length := by simp [miL]
theorem miL_good {n : Int} {l : List En} (h : GoodT n l) : GoodT n (miL n l) := ⟨h.n0, h.n1, by rw [miL_len]; exact h.len, fun j hj _ => by
  have : (miL n l)[j] ∈ miL n l := List.getElem_mem hj
  exact miL_ok h.all _ this⟩
theorem miL_at (n : Int) (l : List En) {j : Nat} (h : j < l.length) : (miL n l)[j]'(by rw [miL_len]; exact h) = miE n l[j] := by simp [miL]
/-- The latest start of column k for a total width. -/
def ltV (n : Int) (l : List En) (g t : Int) (k : Nat) : Int := t + g - stV (miL n l) g (n.toNat - k)
/-- On the way to it: the first i entries. -/
def ltK (n : Int) (l : List En) (g t : Int) (k i : Nat) : Int := t - enK (miL n l) g (n.toNat - 1 - k) i
theorem ltV_end (n : Int) (l : List En) (g t : Int) : ltV n l g t n.toNat = t + g := by unfold ltV; rw [Nat.sub_self, stV_zero]; omega
theorem ltK_zero {n : Int} {l : List En} {g t : Int} {k : Nat} (hk : k < n.toNat) : ltK n l g t k 0 = ltV n l g t (k + 1) - g := by
  unfold ltK ltV; rw [enK_zero, show n.toNat - 1 - k = n.toNat - (k + 1) from by omega]; omega
theorem ltK_all {n : Int} {l : List En} (h : AllOk n l) {g t : Int} {k : Nat} (hk : k < n.toNat) : ltK n l g t k l.length = ltV n l g t k := by
  have e := stV_succ (miL_ok h) g (n.toNat - 1 - k)
  rw [show n.toNat - 1 - k + 1 = n.toNat - k from by omega] at e
  unfold ltK ltV
  rw [e, ← enK_all, miL_len]; omega
theorem ltK_yes {n : Int} {l : List En} (h : AllOk n l) {g t : Int} {k i : Nat} (hk : k < n.toNat) (hi : i < l.length) (h1 : l[i].col = (k : Int)) : ltK n l g t k (i + 1) = min (ltK n l g t k i) (ltV n l g t (k + l[i].spa.toNat) - l[i].wid - g) := by
  have ho := h _ (List.getElem_mem hi)
  have hm : i < (miL n l).length := by rw [miL_len]; exact hi
  have e := enK_yes (g := g) (k := n.toNat - 1 - k) hm (by
    rw [miL_at n l hi]; show n - l[i].col - l[i].spa + l[i].spa = _; omega)
  rw [miL_at n l hi] at e
  unfold ltK ltV
  rw [e]
  have hs := ho.s0; have hs1 := ho.s1
  have e2 : (miE n l[i]).col.toNat = n.toNat - (k + l[i].spa.toNat) := by show (n - l[i].col - l[i].spa).toNat = _; omega
  rw [e2]
  show t - max _ (_ + l[i].wid) = _
  omega
theorem ltK_no {n : Int} {l : List En} {g t : Int} {k i : Nat} (hk : k < n.toNat) (hi : i < l.length) (h1 : ¬ l[i].col = (k : Int)) : ltK n l g t k (i + 1) = ltK n l g t k i := by
  have hm : i < (miL n l).length := by rw [miL_len]; exact hi
  have e := enK_no (g := g) (k := n.toNat - 1 - k) hm (by
    rw [miL_at n l hi]; show ¬ n - l[i].col - l[i].spa + l[i].spa = _; omega)
  unfold ltK
  rw [e]
theorem ltV_bd {n : Int} {l : List En} (h : GoodT n l) {g t : Int} (h0 : 0 ≤ g) (h36 : g ≤ 36) (k : Nat) : t + g - 6360 ≤ ltV n l g t k ∧ ltV n l g t k ≤ t + g := by
  have := h.n1
  have := stV_all (miL_ok h.all) h0 h36 (k := n.toNat - k) (by omega)
  unfold ltV; omega
theorem ltK_bd {n : Int} {l : List En} (h : GoodT n l) {g t : Int} (h0 : 0 ≤ g) (h36 : g ≤ 36) {k : Nat} (hk : k < n.toNat) (i : Nat) : t - 6960 ≤ ltK n l g t k i ∧ ltK n l g t k i ≤ t := by
  have := h.n1
  have h1 := enK_bd (miL_ok h.all) h0 h36 (k := n.toNat - 1 - k) (by omega) i
  have h2 := stV_all (miL_ok h.all) h0 h36 (k := n.toNat - 1 - k) (by omega)
  unfold ltK; omega
/-- By how much entry i could be wider. -/
def rmV (n : Int) (l : List En) (g : Int) (x : En) : Int := wdV l g n - stV l g x.col.toNat - x.wid - stV (miL n l) g (miE n x).col.toNat
end Go.Proofs.Yteagclokobkigaa
