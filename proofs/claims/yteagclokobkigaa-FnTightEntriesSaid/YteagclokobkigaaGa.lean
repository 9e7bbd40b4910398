/-
  What the laws of tables ask, in plain words: widths and gaps make up the width, each entry has its width, more entries never make a table narrower, rooms are not less than 0, there is a tight entry, latest columns are not before the least starts.
-/
import Derived.Test.YteagclokobkigaaEw
import Derived.Test.YteagclokobkigaaEm
import Derived.Test.YteagclokobkigaaEp
namespace Go.Proofs.Yteagclokobkigaa
open Go.RowKit
set_option linter.unusedVariables false

/-- The sum of the first k. -/
def smF (f : Nat → Int) : Nat → Int
  | 0 => 0
  | k + 1 => smF f k + f k
/-- The sum of a list. -/
def smI (l : List Int) : Int := l.foldl (· + ·) 0
theorem smI_snoc (l : List Int) (x : Int) : smI (l ++ [x]) = smI l + x := by unfold smI; rw [List.foldl_append]; rfl
theorem smI_rng (f : Nat → Int) : ∀ k, smI ((List.range k).map f) = smF f k
  | 0 => rfl
  | k + 1 => by rw [rng_succ, smI_snoc, smI_rng f k]; rfl
theorem smF_off (f : Nat → Int) (c : Nat) : ∀ s, smF (fun j => f (c + j)) s = smF f (c + s) - smF f c
  | 0 => by show (0 : Int) = _; rw [Nat.add_zero]; omega
  | s + 1 => by
    show smF (fun j => f (c + j)) s + f (c + s) = smF f (c + (s + 1)) - smF f c
    rw [smF_off f c s, show c + (s + 1) = (c + s) + 1 from rfl]
    show _ = smF f (c + s) + f (c + s) - _
    omega
theorem smF_add (f h : Nat → Int) : ∀ k, smF (fun j => f j + h j) k = smF f k + smF h k
  | 0 => rfl
  | k + 1 => by
    have ih := smF_add f h k
    show smF (fun j => f j + h j) k + (f k + h k) = smF f k + f k + (smF h k + h k)
    omega
/-- Widths and gaps make up the starts. -/
theorem sm_starts {n : Int} {l : List En} (h : AllOk n l) (g : Int) : ∀ k : Nat, smF (fun j => enV l g j - stV l g j) k + (k : Int) * g = stV l g k
  | 0 => by rw [stV_zero]; show (0 : Int) + _ = 0; simp
  | k + 1 => by
    have ih := sm_starts h g k
    have e := stV_succ h g k
    show smF _ k + (enV l g k - stV l g k) + ((k + 1 : Nat) : Int) * g = _
    rw [show ((k + 1 : Nat) : Int) = (k : Int) + 1 from by omega, Int.add_mul, Int.one_mul]
    omega
theorem endF_ge {T : Nat → Int} {k : Int} : ∀ {l : List En} {a : Int}, a ≤ endF T k l a ∧ ∀ x ∈ l, x.col + x.spa = k → T x.col.toNat + x.wid ≤ endF T k l a
  | [], a => ⟨Int.le_refl _, fun x hx => by simp at hx⟩
  | y :: r, a => by
    have ih := endF_ge (T := T) (k := k) (l := r) (a := stp T k a y)
    have e : endF T k (y :: r) a = endF T k r (stp T k a y) := rfl
    have h1 : a ≤ stp T k a y := by
      unfold stp
      by_cases h2 : y.col + y.spa = k
      · rw [if_pos h2]; omega
      · rw [if_neg h2]; omega
    rw [e]
    refine ⟨by omega, fun x hx hk => ?_⟩
    rcases List.mem_cons.1 hx with rfl | hx
    · have h2 : T x.col.toNat + x.wid ≤ stp T k a x := by unfold stp; rw [if_pos hk]; omega
      omega
    · exact ih.2 x hx hk
theorem endF_which {T : Nat → Int} {k : Int} : ∀ {l : List En} {a : Int}, endF T k l a = a ∨ ∃ x ∈ l, x.col + x.spa = k ∧ endF T k l a = T x.col.toNat + x.wid
  | [], a => .inl rfl
  | y :: r, a => by
    have e : endF T k (y :: r) a = endF T k r (stp T k a y) := rfl
    rw [e]
    rcases endF_which (T := T) (k := k) (l := r) (a := stp T k a y) with h | ⟨x, hx, hk, h⟩
    · rw [h]
      by_cases h2 : y.col + y.spa = k
      · have e2 : stp T k a y = max a (T y.col.toNat + y.wid) := by unfold stp; rw [if_pos h2]
        rw [e2]
        rcases (by omega : max a (T y.col.toNat + y.wid) = a ∨ max a (T y.col.toNat + y.wid) = T y.col.toNat + y.wid) with h3 | h3
        · exact .inl h3
        · exact .inr ⟨y, by simp, h2, h3⟩
      · have e2 : stp T k a y = a := by unfold stp; rw [if_neg h2]
        exact .inl e2
    · exact .inr ⟨x, by simp [hx], hk, h⟩
/-- Each entry has its width. -/
theorem st_entry {n : Int} {l : List En} (h : AllOk n l) (g : Int) {x : En} (hx : x ∈ l) : stV l g x.col.toNat + x.wid + g ≤ stV l g (x.col + x.spa).toNat := by
  have ho := h x hx
  have h0 := ho.c0; have h1 := ho.s0
  obtain ⟨k, hk⟩ : ∃ k : Nat, (x.col + x.spa).toNat = k + 1 := ⟨(x.col + x.spa).toNat - 1, by omega⟩
  rw [hk, stV_succ h]
  have := (endF_ge (T := stV l g) (k := ((k + 1 : Nat) : Int)) (l := l) (a := stV l g k)).2 x hx (by omega)
  unfold enV
  omega
theorem st_next {n : Int} {l : List En} (h : AllOk n l) (g : Int) (k : Nat) : stV l g k + g ≤ stV l g (k + 1) := by
  rw [stV_succ h]
  have := (endF_ge (T := stV l g) (k := ((k + 1 : Nat) : Int)) (l := l) (a := stV l g k)).1
  unfold enV
  omega
/-- More entries never make a table narrower. -/
theorem st_mono {n : Int} {l L : List En} (h : AllOk n l) (H : AllOk n L) (hs : ∀ x ∈ l, x ∈ L) (g : Int) (k : Nat) : ∀ j, j ≤ k → stV l g j ≤ stV L g j := by
  induction k with
  | zero => intro j hj; obtain rfl : j = 0 := by omega
            rw [stV_zero, stV_zero]; exact Int.le_refl _
  | succ k ih =>
    intro j hj
    rcases Nat.lt_or_ge j (k + 1) with h3 | h3
    · exact ih j (by omega)
    obtain rfl : j = k + 1 := by omega
    rw [stV_succ h, stV_succ H]
    have hG := endF_ge (T := stV L g) (k := ((k + 1 : Nat) : Int)) (l := L) (a := stV L g k)
    have : enV l g k ≤ enV L g k := by
      unfold enV
      rcases endF_which (T := stV l g) (k := ((k + 1 : Nat) : Int)) (l := l) (a := stV l g k) with e | ⟨x, hx, hk, e⟩
      · rw [e]; have := ih k (Nat.le_refl _); omega
      · rw [e]
        have ho := h x hx
        have := ho.c0; have := ho.s0
        have h4 := ih x.col.toNat (by omega)
        have := hG.2 x (hs x hx) hk
        omega
    omega
theorem wd_mono {n : Int} {l L : List En} (h : AllOk n l) (H : AllOk n L) (hs : ∀ x ∈ l, x ∈ L) (g : Int) : wdV l g n ≤ wdV L g n := by
  unfold wdV; have := st_mono h H hs g n.toNat n.toNat (Nat.le_refl _); omega
theorem woL_snoc (l : List En) (x : En) : woL (l ++ [x]) l.length = l := by
  unfold woL
  rw [List.take_append_of_le_length (Nat.le_refl _), List.take_length, List.drop_eq_nil_of_le (by simp), List.append_nil]
theorem woL_sub {l : List En} {i : Nat} : ∀ x ∈ woL l i, x ∈ l := fun x hx => woL_mem hx
/-- Latest starts are not before the least ones. -/
theorem lt_next {n : Int} {l : List En} (h : AllOk n l) (g t : Int) {k : Nat} (hk : k < n.toNat) : ltV n l g t k + g ≤ ltV n l g t (k + 1) := by
  have := st_next (miL_ok h) g (n.toNat - (k + 1))
  rw [show n.toNat - (k + 1) + 1 = n.toNat - k from by omega] at this
  unfold ltV; omega
theorem lt_ge {n : Int} {l : List En} (h : AllOk n l) (g : Int) {t : Int} (ht : wdV l g n ≤ t) : ∀ (m k : Nat), k + m = n.toNat → stV l g k ≤ ltV n l g t k := by
  intro m
  induction m using Nat.strongRecOn with
  | _ m ih =>
    intro k hk
    rcases Nat.eq_zero_or_pos m with rfl | hm
    · obtain rfl : k = n.toNat := by omega
      rw [ltV_end]; unfold wdV at ht; omega
    have hkn : k < n.toNat := by omega
    have step : ∀ i, i ≤ l.length → stV l g k ≤ ltK n l g t k i := by
      intro i
      induction i with
      | zero =>
        intro _
        rw [ltK_zero hkn]
        have h1 := ih (m - 1) (by omega) (k + 1) (by omega)
        have h2 := st_next h g k
        omega
      | succ i ih2 =>
        intro hi
        have h0 := ih2 (by omega)
        have hi2 : i < l.length := by omega
        by_cases hc : l[i].col = (k : Int)
        · rw [ltK_yes h hkn hi2 hc]
          have ho := h _ (List.getElem_mem hi2)
          have a1 := ho.s0; have a2 := ho.s1
          have h1 := ih (m - l[i].spa.toNat) (by omega) (k + l[i].spa.toNat) (by omega)
          have h2 := st_entry h g (List.getElem_mem hi2)
          rw [hc, show (k : Int).toNat = k from by omega, show ((k : Int) + l[i].spa).toNat = k + l[i].spa.toNat from by omega] at h2
          omega
        · rw [ltK_no hkn hi2 hc]; exact h0
    rw [← ltK_all h hkn]
    exact step l.length (Nat.le_refl _)
theorem lt_st {n : Int} {l : List En} (h : AllOk n l) (g : Int) {t : Int} (ht : wdV l g n ≤ t) {k : Nat} (hk : k ≤ n.toNat) : stV l g k ≤ ltV n l g t k := lt_ge h g ht (n.toNat - k) k (by omega)
/-- The room of an entry, by the latest start behind it. -/
theorem rm_lt {n : Int} {l : List En} {x : En} (hx : EnOk n x) (g : Int) : rmV n l g x = ltV n l g (wdV l g n) (x.col + x.spa).toNat - g - stV l g x.col.toNat - x.wid := by
  have := hx.c0; have := hx.s0; have := hx.s1
  unfold rmV ltV
  have e : (miE n x).col.toNat = n.toNat - (x.col + x.spa).toNat := by show (n - x.col - x.spa).toNat = _; omega
  rw [e]
  omega
theorem rm_ge {n : Int} {l : List En} (h : AllOk n l) (g : Int) {x : En} (hx : x ∈ l) : 0 ≤ rmV n l g x := by
  have ho := h x hx
  have := ho.c0; have := ho.s0; have := ho.s1
  rw [rm_lt ho]
  have h1 := lt_st h g (Int.le_refl (wdV l g n)) (k := (x.col + x.spa).toNat) (by omega)
  have h2 := st_entry h g hx
  omega
/-- A table that is wider than its gaps has an entry without room. -/
theorem tight_path {n : Int} {l : List En} (h : AllOk n l) (g : Int) : ∀ k : Nat, k ≤ n.toNat → ltV n l g (wdV l g n) k = stV l g k → (k : Int) * g < stV l g k → ∃ x ∈ l, rmV n l g x = 0
  | 0, _, _, h2 => by rw [stV_zero] at h2; simp at h2
  | k + 1, hk, h1, h2 => by
    rw [stV_succ h] at h1 h2
    have e2 : ((k + 1 : Nat) : Int) * g = (k : Int) * g + g := by rw [show ((k + 1 : Nat) : Int) = (k : Int) + 1 from by omega, Int.add_mul, Int.one_mul]
    rw [e2] at h2
    unfold enV at h1 h2
    rcases endF_which (T := stV l g) (k := ((k + 1 : Nat) : Int)) (l := l) (a := stV l g k) with e | ⟨x, hx, hxk, e⟩
    · rw [e] at h1 h2
      have h3 := lt_next h g (wdV l g n) (k := k) (by omega)
      have h4 := lt_st h g (Int.le_refl (wdV l g n)) (k := k) (by omega)
      exact tight_path h g k (by omega) (by omega) (by omega)
    · rw [e] at h1
      refine ⟨x, hx, ?_⟩
      rw [rm_lt (h x hx), show (x.col + x.spa).toNat = k + 1 from by omega, h1]
      omega
theorem tight_some {n : Int} {l : List En} (h : AllOk n l) (g : Int) (hn : 1 ≤ n) (hw : (n - 1) * g < wdV l g n) : ∃ x ∈ l, rmV n l g x = 0 := by
  refine tight_path h g n.toNat (Nat.le_refl _) ?_ ?_
  · rw [ltV_end]; unfold wdV; omega
  · have e : ((n.toNat : Nat) : Int) * g = (n - 1) * g + g := by
      rw [show ((n.toNat : Nat) : Int) = (n - 1) + 1 from by omega, Int.add_mul, Int.one_mul]
    rw [e]; unfold wdV at hw; omega
/-- The tight ones are those that have no room. -/
theorem tiK_mem {n : Int} {l : List En} {g : Int} : ∀ (k : Nat), k ≤ l.length → ∀ (i : Nat) (hi : i < l.length), ((i : Int) ∈ tiK n l g k ↔ i < k ∧ rmV n l g l[i] = 0)
  | 0, _, i, hi => by simp [tiK]
  | k + 1, hk, i, hi => by
    have ih := tiK_mem (n := n) (l := l) (g := g) k (by omega) i hi
    by_cases hr : rmV n l g (l[k]'(by omega)) = 0
    · rw [tiK_yes (by omega) hr, List.mem_append, ih]
      constructor
      · rintro (⟨h1, h2⟩ | h1)
        · exact ⟨by omega, h2⟩
        · have : i = k := by have := List.mem_singleton.1 h1; omega
          subst this; exact ⟨by omega, hr⟩
      · rintro ⟨h1, h2⟩
        rcases Nat.lt_or_ge i k with h3 | h3
        · exact .inl ⟨h3, h2⟩
        · obtain rfl : i = k := by omega
          exact .inr (by simp)
    · rw [tiK_no (by omega) hr, ih]
      constructor
      · rintro ⟨h1, h2⟩; exact ⟨by omega, h2⟩
      · rintro ⟨h1, h2⟩
        rcases Nat.lt_or_ge i k with h3 | h3
        · exact ⟨h3, h2⟩
        · obtain rfl : i = k := by omega
          exact absurd h2 hr
/-- Numbers that divide a total evenly make up the total. -/
theorem sm_even (t : Int) (N : Nat) (hN : 1 ≤ N) (ht : 0 ≤ t) : smF (evI t (N : Int)) N = t := by
  have key : ∀ k : Nat, smF (evI t (N : Int)) k = (k : Int) * t.tdiv (N : Int) + min (k : Int) (t.tmod (N : Int)) := by
    have hm : 0 ≤ t.tmod (N : Int) := Int.tmod_nonneg _ ht
    intro k
    induction k with
    | zero => show (0 : Int) = _; simp; omega
    | succ k ih =>
      show smF _ k + evI t (N : Int) k = _
      rw [ih, show ((k + 1 : Nat) : Int) = (k : Int) + 1 from by omega, Int.add_mul, Int.one_mul]
      by_cases h : (k : Int) < t.tmod (N : Int)
      · rw [evI_yes h]; omega
      · rw [evI_no h]; omega
  have hlt : t.tmod (N : Int) < (N : Int) := Int.tmod_lt_of_pos _ (by omega)
  rw [key]
  have := Int.mul_tdiv_add_tmod t (N : Int)
  omega
theorem sm_spread {n : Int} {l : List En} (h : AllOk n l) (g t : Int) (N : Nat) (hn : n = (N : Int)) (hN : 1 ≤ N) (ht : wdV l g n ≤ t) : smF (spF l g (t - wdV l g n) N) N + ((N : Int) - 1) * g = t := by
  have e : spF l g (t - wdV l g n) N = fun j => (enV l g j - stV l g j) + evI (t - wdV l g n) (N : Int) j := rfl
  rw [e, smF_add, sm_even _ _ hN (by omega)]
  have h1 := sm_starts h g N
  have h2 : ((N : Int) - 1) * g = (N : Int) * g - g := by rw [Int.sub_mul, Int.one_mul]
  rw [h2]
  unfold wdV
  rw [hn, Int.toNat_natCast]
  omega
end Go.Proofs.Yteagclokobkigaa
