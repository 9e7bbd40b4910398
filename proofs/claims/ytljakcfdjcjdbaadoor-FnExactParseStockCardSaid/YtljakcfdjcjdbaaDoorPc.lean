/-
  Counts of a stock, and the contracts of spec.ruCounts, PiecesOf, StockLength, ruRest, RestOfStock and impl.areSlipCounts, PiecesOf, numbersOfSlips, StockLength, RestOfStock, slices.Clone at slips.
-/
import Derived.Test.YtljakcfdjcjdbaaDoorPb
import Derived.Test.YtljakcfdjcjdbaaDoorVb
import Derived.BigRegion
namespace Go.Proofs.YtljakcfdjcjdbaaDoor
open Go.RowKit
set_option linter.unusedVariables false

/-- The first k are counts. -/
def CUp (f : List Sl) (cs : List Int) (k : Nat) : Prop := ∀ j (h : j < cs.length) (h2 : j < f.length), j < k → 0 ≤ cs[j] ∧ cs[j] ≤ f[j].cnt
structure GoodC (f : List Sl) (cs : List Int) : Prop where
  s : GoodS f
  len : cs.length = f.length
  at_ : CUp f cs f.length
open Classical in
noncomputable def cntsB (f : List Sl) (cs : List Int) : Bool := decide (GoodC f cs)
theorem cntsB_iff {f : List Sl} {cs : List Int} : cntsB f cs = true ↔ GoodC f cs := by unfold cntsB; exact @decide_eq_true_iff _ (Classical.propDecidable _)
theorem cntsB_no {f : List Sl} {cs : List Int} (h : ¬ GoodC f cs) : cntsB f cs = false := by cases hb : cntsB f cs with | false => rfl | true => exact absurd (cntsB_iff.1 hb) h
theorem CUp.start (f : List Sl) (cs : List Int) : CUp f cs 0 := fun _ _ _ h => absurd h (by omega)
theorem CUp.succ {f : List Sl} {cs : List Int} {k : Nat} (h : CUp f cs k) (h1 : k < cs.length) (h2 : k < f.length) (hk : 0 ≤ cs[k] ∧ cs[k] ≤ f[k].cnt) : CUp f cs (k + 1) := fun j hj hj2 hjk => by
  rcases Nat.lt_or_ge j k with h3 | h3
  · exact h j hj hj2 h3
  · obtain rfl : j = k := by omega
    exact hk
theorem cntsB_noK {f : List Sl} {cs : List Int} {k : Nat} (h1 : k < cs.length) (h2 : k < f.length) (h : ¬ (0 ≤ cs[k] ∧ cs[k] ≤ f[k].cnt)) : cntsB f cs = false := cntsB_no fun g => h (g.at_ k h1 h2 h2)
/-- The sums of the counts, and of their Lengths, up to k. -/
def pcS (cs : List Int) : Nat → Int | 0 => 0 | k + 1 => pcS cs k + cs.getD k 0
def lnS (f : List Sl) (cs : List Int) : Nat → Int | 0 => 0 | k + 1 => lnS f cs k + cs.getD k 0 * (f.getD k ⟨0, 0⟩).len
theorem getI {l : List Int} {k : Nat} (h : k < l.length) : l.getD k 0 = l[k] := by rw [List.getD_eq_getElem?_getD, List.getElem?_eq_getElem h]; rfl
theorem getS {f : List Sl} {k : Nat} (h : k < f.length) : f.getD k ⟨0, 0⟩ = f[k] := by rw [List.getD_eq_getElem?_getD, List.getElem?_eq_getElem h]; rfl
theorem pcS_succ {cs : List Int} {k : Nat} (h : k < cs.length) : pcS cs (k + 1) = pcS cs k + cs[k] := by show pcS cs k + cs.getD k 0 = _; rw [getI h]
theorem lnS_succ {f : List Sl} {cs : List Int} {k : Nat} (h : k < cs.length) (h2 : k < f.length) : lnS f cs (k + 1) = lnS f cs k + cs[k] * f[k].len := by
  show lnS f cs k + cs.getD k 0 * (f.getD k ⟨0, 0⟩).len = _; rw [getI h, getS h2]
theorem mul_4000 {c l : Int} (h1 : 0 ≤ c) (h2 : c ≤ 20) (h3 : 1 ≤ l) (h4 : l ≤ 200) : 0 ≤ c * l ∧ c * l ≤ 4000 := by
  refine ⟨Int.mul_nonneg h1 (by omega), ?_⟩
  have := Int.mul_le_mul h2 h4 (by omega) (by omega)
  omega
theorem GoodC.c20 {f : List Sl} {cs : List Int} (h : GoodC f cs) {k : Nat} (hk : k < cs.length) (h2 : k < f.length) : 0 ≤ cs[k] ∧ cs[k] ≤ 20 := by
  have h1 := h.at_ k hk h2 h2
  have h3 := h.s.bd h2
  omega
theorem GoodC.sums {f : List Sl} {cs : List Int} (h : GoodC f cs) : ∀ k, k ≤ f.length → (0 ≤ pcS cs k ∧ pcS cs k ≤ 20 * (k : Int)) ∧ 0 ≤ lnS f cs k ∧ lnS f cs k ≤ 4000 * (k : Int)
  | 0, _ => ⟨⟨Int.le_refl _, by show (0 : Int) ≤ _; omega⟩, Int.le_refl _, by show (0 : Int) ≤ _; omega⟩
  | k + 1, hk => by
    have ih := h.sums k (by omega)
    have hl := h.len
    have h1 := h.c20 (k := k) (by omega) (by omega)
    have h2 := (h.s.bd (j := k) (by omega)).1
    have h3 := mul_4000 h1.1 h1.2 h2.1 h2.2
    rw [pcS_succ (by omega), lnS_succ (by omega) (by omega)]
    omega
noncomputable def pcV (f : List Sl) (cs : List Int) : Int := if cntsB f cs then pcS cs f.length else 0
noncomputable def lnV (f : List Sl) (cs : List Int) : Int := if cntsB f cs then lnS f cs f.length else 0
theorem pcV_no {f : List Sl} {cs : List Int} (h : cntsB f cs = false) : pcV f cs = 0 ∧ lnV f cs = 0 := by unfold pcV lnV; rw [h]; exact ⟨rfl, rfl⟩
theorem pcV_yes {f : List Sl} {cs : List Int} (h : cntsB f cs = true) : pcV f cs = pcS cs f.length ∧ lnV f cs = lnS f cs f.length := by unfold pcV lnV; rw [h]; exact ⟨rfl, rfl⟩

theorem ret_iib {a a' b b' : Int} {c c' : Bool} (h1 : a = a') (h2 : b = b') (h3 : c = c') : Ending.returned (.tuple #[.int .i64 a, .int .i64 b, .bool c]) = .returned (.tuple #[.int .i64 a', .int .i64 b', .bool c']) := by rw [h1, h2, h3]
end Go.Proofs.YtljakcfdjcjdbaaDoor
