/-
  Rows (an index and a value) in memory; the contract of slices.swapRangeCmpFunc.
-/
import Derived.Test.YtdlobjjfakffaaaJb
import Derived.Test.YtdlobjjfakffaaaBase
import Derived.BigRegion
import Derived.IntWalk
namespace Go.Proofs.Ytdlobjjfakffaaa
open Go.RowKit
set_option linter.unusedVariables false

/-- The rows f 0 .. f (n - 1) lie in block b. -/
def RowsF (w : World) (b n : Nat) (f : Nat → Rq) : Prop :=
  ∃ cur : Array Value, w.heap[b]? = some (.cells cur 38 (0, 0)) ∧ n * 2 ≤ cur.size ∧ ∀ k, k < n → cur[k * 2]? = some (.int .i64 (f k).i) ∧ cur[k * 2 + 1]? = some (.int .i64 (f k).v)
theorem RowsF.lt {w : World} {b n : Nat} {f : Nat → Rq} (h : RowsF w b n f) : b < w.heap.size := by
  obtain ⟨cur, h1, _⟩ := h
  exact lt_of_heap h1
theorem RowsF.at_ {w : World} {b n : Nat} {f : Nat → Rq} (h : RowsF w b n f) {k : Nat} (hk : k < n) : w.cell? ⟨b, k * 2, none⟩ = some (.int .i64 (f k).i) ∧ w.cell? ⟨b, k * 2 + 1, none⟩ = some (.int .i64 (f k).v) := by
  obtain ⟨cur, h1, h2, h3⟩ := h
  rw [cell_of_heap h1, cell_of_heap h1]
  exact h3 k hk
theorem RowsF.free {w : World} {b n : Nat} {f : Nat → Rq} (h : RowsF w b n f) (k : Nat) : w.frozen? ⟨b, k, none⟩ = false := by
  obtain ⟨cur, h1, h2, h3⟩ := h
  exact free_of_heap h1 k
theorem RowsF.below {w w' : World} {b n : Nat} {f : Nat → Rq} (h : RowsF w b n f) (hb : Below w.heap.size w w') : RowsF w' b n f := by
  have hl := h.lt
  obtain ⟨cur, h1, h2, h3⟩ := h
  exact ⟨cur, (hb.block b hl).trans h1, h2, h3⟩
theorem RowsF.other {w w' : World} {b n : Nat} {f : Nat → Rq} (h : RowsF w b n f) {row : Option Nat} (hg : w.grownBy w' row) (hne : row ≠ some b) : RowsF w' b n f := by
  have hl := h.lt
  obtain ⟨cur, h1, h2, h3⟩ := h
  exact ⟨cur, (hg.block b hl (fun e => hne e.symm)).trans h1, h2, h3⟩
def putF (a : Nat) (x : Rq) (f : Nat → Rq) : Nat → Rq := fun k => if k = a then x else f k
theorem RowsF.put {w : World} {b n : Nat} {f : Nat → Rq} (h : RowsF w b n f) (a : Nat) (x : Rq) : RowsF ((w.setCell ⟨b, a * 2, none⟩ (.int .i64 x.i)).setCell ⟨b, a * 2 + 1, none⟩ (.int .i64 x.v)) b n (putF a x f) := by
  obtain ⟨cur, h1, h2, h3⟩ := h
  refine ⟨_, heap_set (heap_set h1 _) _, by simpa using h2, fun k hk => ?_⟩
  have h4 := h3 k hk
  have hs : k * 2 + 1 < cur.size := by omega
  unfold putF
  by_cases e : k = a
  · subst e
    rw [if_pos rfl]
    constructor
    · rw [Array.getElem?_setIfInBounds, if_neg (by omega), Array.getElem?_setIfInBounds, if_pos rfl, if_pos (by omega)]
    · rw [Array.getElem?_setIfInBounds, if_pos rfl, if_pos (by simpa using hs)]
  · rw [if_neg e]
    constructor
    · rw [Array.getElem?_setIfInBounds, if_neg (by omega), Array.getElem?_setIfInBounds, if_neg (by omega)]; exact h4.1
    · rw [Array.getElem?_setIfInBounds, if_neg (by omega), Array.getElem?_setIfInBounds, if_neg (by omega)]; exact h4.2
theorem sw_put (a b : Nat) (f : Nat → Rq) : putF b (f a) (putF a (f b) f) = swF a b f := by
  funext k
  unfold putF swF
  by_cases h1 : k = b
  · rw [if_pos h1]
    by_cases h2 : k = a
    · rw [if_pos h2]; congr 1; omega
    · rw [if_neg h2, if_pos h1]
  · rw [if_neg h1]
    by_cases h2 : k = a
    · rw [if_pos h2, if_pos h2]
    · rw [if_neg h2, if_neg h2, if_neg h1]
/-- What a sort does: the rows of block b become others, and nothing else is changed. -/
def SortTo (w w' : World) (b n : Nat) (f : Nat → Rq) (e : Ending) : Prop := e = .returned (.tuple #[]) ∧ RowsF w' b n f ∧ w.grownBy w' (some b)

theorem swapped {w wr : World} {b n : Nat} {f : Nat → Rq} (h : RowsF wr b n f) (hg : w.grownBy wr (some b)) (p q : Nat) :
    RowsF ((((wr.setCell ⟨b, p * 2, none⟩ (.int .i64 (f q).i)).setCell ⟨b, p * 2 + 1, none⟩ (.int .i64 (f q).v)).setCell ⟨b, q * 2, none⟩ (.int .i64 (f p).i)).setCell ⟨b, q * 2 + 1, none⟩ (.int .i64 (f p).v)) b n (swF p q f) ∧
      w.grownBy ((((wr.setCell ⟨b, p * 2, none⟩ (.int .i64 (f q).i)).setCell ⟨b, p * 2 + 1, none⟩ (.int .i64 (f q).v)).setCell ⟨b, q * 2, none⟩ (.int .i64 (f p).i)).setCell ⟨b, q * 2 + 1, none⟩ (.int .i64 (f p).v)) (some b) := by
  refine ⟨?_, grown_set (grown_set (grown_set (grown_set hg _ _) _ _) _ _) _ _⟩
  rw [← sw_put]
  exact (h.put p (f q)).put q (f p)
theorem RowsF.drew {w : World} {b n : Nat} {f : Nat → Rq} (h : RowsF w b n f) : RowsF w.drew b n f := h.below ((Below.refl _ _).drew)
theorem grown_drew {w wr : World} {b : Nat} (h : w.grownBy wr (some b)) : w.grownBy wr.drew (some b) := grown_below h ((Below.refl _ _).drew)

set_option maxRecDepth 100000 in
set_option maxHeartbeats 4000000 in
theorem swapRange_any (b N c : Nat) (a a2 n : Nat) (f : Nat → Rq) (g : Value) (w : World) (h : RowsF w b N f) (hN : N ≤ 1000) (h1 : a + n ≤ a2) (h2 : a2 + n ≤ N) :
    Calls Try.prog 24 #[.slice (some ⟨b, 0, none⟩) N c, .int .i64 (a : Int), .int .i64 (a2 : Int), .int .i64 (n : Int), g] w fun e w' => SortTo w w' b N (srF a a2 n f) e := by
  have HR := Lib.hid h; clear h
  go_enter Try.func24, Try.ntmps24
  go_wp2
  go_loopw [10] (fun i wr => ∃ k : Nat, k ≤ n ∧ i = .int .i64 (k : Int) ∧ RowsF wr b N (srF a a2 k f) ∧ w.grownBy wr (some b)) (fun i _ => n - (intOf i).toNat)
  case atStart => exact ⟨0, Nat.zero_le _, rfl, by rw [sr_zero]; exact HR.out, World.grownBy.refl _ _⟩
  case round =>
    obtain ⟨k, hk, rfl, hr, hg⟩ := hrel
    have HG := Lib.hid hg; clear hg
    by_cases hlt : k < n
    · have hki : (k : Int) < (n : Int) := by omega
      obtain ⟨p, hp⟩ : ∃ p, p = a + k := ⟨_, rfl⟩
      obtain ⟨q, hq⟩ : ∃ q, q = a2 + k := ⟨_, rfl⟩
      have hpN : p < N := by omega
      have hqN : q < N := by omega
      have HS : Hid (srF a a2 (k + 1) f = swF p q (srF a a2 k f)) := Lib.hid (by rw [sr_succ (by omega), hp, hq])
      have hpq : p ≠ q := by omega
      generalize srF a a2 k f = F at *
      have e1 : (a : Int) + (k : Int) = (p : Int) := by omega
      have e2 : (a2 : Int) + (k : Int) = (q : Int) := by omega
      have w1 : IntKind.i64.wrap (p : Int) = (p : Int) := by rw [IntKind.wrap_i64]; omega
      have w2 : IntKind.i64.wrap (q : Int) = (q : Int) := by rw [IntKind.wrap_i64]; omega
      have hpi : (p : Int) < (N : Int) := by omega
      have hqi : (q : Int) < (N : Int) := by omega
      have hp0 : (0 : Int) ≤ (p : Int) := by omega
      have hq0 : (0 : Int) ≤ (q : Int) := by omega
      clear hp hq
      obtain ⟨x0, x1⟩ := hr.at_ hpN
      obtain ⟨y0, y1⟩ := hr.at_ hqN
      have f0 := hr.free (p * 2); have f1 := hr.free (p * 2 + 1); have f2 := hr.free (q * 2); have f3 := hr.free (q * 2 + 1)
      have HRR := Lib.hid hr; clear hr
      have n1 : ¬ p * 2 + 1 = q * 2 + 1 := by omega
      have n2 : ¬ p * 2 = q * 2 := by omega
      have n3 : ¬ p * 2 + 1 = q * 2 := by omega
      have n4 : ¬ p * 2 = q * 2 + 1 := by omega
      have n5 : ¬ q * 2 + 1 = p * 2 + 1 := by omega
      have n6 : ¬ q * 2 = p * 2 := by omega
      have n7 : ¬ q * 2 + 1 = p * 2 := by omega
      have n8 : ¬ q * 2 = p * 2 + 1 := by omega
      go_wp2_with fail
      go_region
      all_goals
        go_wp2
        go_roundw
        case rel => exact ⟨k + 1, by omega, by go_num, by rw [HS.out]; exact (swapped HRR.out HG.out p q).1.drew, grown_drew (swapped HRR.out HG.out p q).2⟩
        case measure => simp [intOf]; omega
    · obtain rfl : k = n := by omega
      go_wp2
      go_end0
      exact ⟨rfl, hr, HG.out⟩
end Go.Proofs.Ytdlobjjfakffaaa
