import Derived.Test.YtnbnegkoanidmaaGreatDoorMwa
import Derived.Test.YtnbnegkoanidmaaGreatDoorBase
import Derived.BigRegion
import Derived.IntWalk
import Derived.Test.YtnbnegkoanidmaaGreatDoorTail
/-
  Rows (an index and a value) in memory; the contract of slices.swapRangeCmpFunc.
-/
namespace Go.Proofs.YtnbnegkoanidmaaGreatDoor
open Go.RowKit
set_option linter.unusedVariables false

/-- The rows f 0 .. f (n - 1) lie in block b. -/
def RowsF (w : World) (b n : Nat) (f : Nat → Rq) : Prop :=
  ∃ cur : Array Value, w.heap[b]? = some (.cells cur 56 (0, 0)) ∧ n * 2 ≤ cur.size ∧ ∀ k, k < n → cur[k * 2]? = some (.int .i64 (f k).i) ∧ cur[k * 2 + 1]? = some (.int .i64 (f k).v)
theorem RowsF.lt {w : World} {b n : Nat} {f : Nat → Rq} (h : RowsF w b n f) : b < w.heap.size := by
  obtain ⟨cur, h1, _⟩ := h
  exact lt_of_heap h1
theorem RowsF.at_ {w : World} {b n : Nat} {f : Nat → Rq} (h : RowsF w b n f) {k : Nat} (hk : k < n) : w.cell? ⟨b, k * 2, none⟩ = some (.int .i64 (f k).i) ∧ w.cell? ⟨b, k * 2 + 1, none⟩ = some (.int .i64 (f k).v) := by
  obtain ⟨cur, h1, h2, h3⟩ := h
  rw [cell_of_heap h1, cell_of_heap h1]
  exact h3 k hk
theorem RowsF.free {w : World} {b n : Nat} {f : Nat → Rq} (h : RowsF w b n f) (k : Nat) : w.frozen? ⟨b, k, none⟩ = false := by
  obtain ⟨cur, h1, h2, h3⟩ := h
  exact free_of_heap h1 k
theorem RowsF.below {w w' : World} {b n : Nat} {f : Nat → Rq} (h : RowsF w b n f) (hb : Below w.heap.size w w') : RowsF w' b n f := by
  have hl := h.lt
  obtain ⟨cur, h1, h2, h3⟩ := h
  exact ⟨cur, (hb.block b hl).trans h1, h2, h3⟩
theorem RowsF.other {w w' : World} {b n : Nat} {f : Nat → Rq} (h : RowsF w b n f) {row : Option Nat} (hg : w.grownBy w' row) (hne : row ≠ some b) : RowsF w' b n f := by
  have hl := h.lt
  obtain ⟨cur, h1, h2, h3⟩ := h
  exact ⟨cur, (hg.block b hl (fun e => hne e.symm)).trans h1, h2, h3⟩
def putF (a : Nat) (x : Rq) (f : Nat → Rq) : Nat → Rq := fun k => if k = a then x else f k
theorem RowsF.put {w : World} {b n : Nat} {f : Nat → Rq} (h : RowsF w b n f) (a : Nat) (x : Rq) : RowsF ((w.setCell ⟨b, a * 2, none⟩ (.int .i64 x.i)).setCell ⟨b, a * 2 + 1, none⟩ (.int .i64 x.v)) b n (putF a x f) := by
  obtain ⟨cur, h1, h2, h3⟩ := h
  refine ⟨_, heap_set (heap_set h1 _) _, by simpa using h2, fun k hk => ?_⟩
  have h4 := h3 k hk
  have hs : k * 2 + 1 < cur.size := by omega
  unfold putF
  by_cases e : k = a
  · subst e
    rw [if_pos rfl]
    constructor
    · rw [Array.getElem?_setIfInBounds, if_neg (by omega), Array.getElem?_setIfInBounds, if_pos rfl, if_pos (by omega)]
    · rw [Array.getElem?_setIfInBounds, if_pos rfl, if_pos (by simpa using hs)]
  · rw [if_neg e]
    constructor
    · rw [Array.getElem?_setIfInBounds, if_neg (by omega), Array.getElem?_setIfInBounds, if_neg (by omega)]; exact h4.1
    · rw [Array.getElem?_setIfInBounds, if_neg (by omega), Array.getElem?_setIfInBounds, if_neg (by omega)]; exact h4.2
theorem sw_put (a b : Nat) (f : Nat → Rq) : putF b (f a) (putF a (f b) f) = swF a b f := by
  funext k
  unfold putF swF
  by_cases h1 : k = b
  · rw [if_pos h1]
    by_cases h2 : k = a
    · rw [if_pos h2]; congr 1; omega
    · rw [if_neg h2, if_pos h1]
  · rw [if_neg h1]
    by_cases h2 : k = a
    · rw [if_pos h2, if_pos h2]
    · rw [if_neg h2, if_neg h2, if_neg h1]
/-- What a sort does: the rows of block b become others, and nothing else is changed. -/
def SortTo (w w' : World) (b n : Nat) (f : Nat → Rq) (e : Ending) : Prop := e = .returned (.tuple #[]) ∧ RowsF w' b n f ∧ w.grownBy w' (some b)

theorem swapped {w wr : World} {b n : Nat} {f : Nat → Rq} (h : RowsF wr b n f) (hg : w.grownBy wr (some b)) (p q : Nat) :
    RowsF ((((wr.setCell ⟨b, p * 2, none⟩ (.int .i64 (f q).i)).setCell ⟨b, p * 2 + 1, none⟩ (.int .i64 (f q).v)).setCell ⟨b, q * 2, none⟩ (.int .i64 (f p).i)).setCell ⟨b, q * 2 + 1, none⟩ (.int .i64 (f p).v)) b n (swF p q f) ∧
      w.grownBy ((((wr.setCell ⟨b, p * 2, none⟩ (.int .i64 (f q).i)).setCell ⟨b, p * 2 + 1, none⟩ (.int .i64 (f q).v)).setCell ⟨b, q * 2, none⟩ (.int .i64 (f p).i)).setCell ⟨b, q * 2 + 1, none⟩ (.int .i64 (f p).v)) (some b) := by
  refine ⟨?_, grown_set (grown_set (grown_set (grown_set hg _ _) _ _) _ _) _ _⟩
  rw [← sw_put]
  exact (h.put p (f q)).put q (f p)
theorem RowsF.drew {w : World} {b n : Nat} {f : Nat → Rq} (h : RowsF w b n f) : RowsF w.drew b n f := h.below ((Below.refl _ _).drew)
theorem grown_drew {w wr : World} {b : Nat} (h : w.grownBy wr (some b)) : w.grownBy wr.drew (some b) := grown_below h ((Below.refl _ _).drew)

set_option maxRecDepth 100000 in
set_option maxHeartbeats 4000000 in
theorem swapRange_any (b N c : Nat) (a a2 n : Nat) (f : Nat → Rq) (g : Value) (w : World) (h : RowsF w b N f) (hN : N ≤ 1000) (h1 : a + n ≤ a2) (h2 : a2 + n ≤ N) :
    Calls Tryz.prog 98 #[.slice (some ⟨b, 0, none⟩) N c, .int .i64 (a : Int), .int .i64 (a2 : Int), .int .i64 (n : Int), g] w fun e w' => SortTo w w' b N (srF a a2 n f) e := by
  have HR := Lib.hid h; clear h
  go_enter Tryz.func98, Tryz.ntmps98
  go_wp2
  go_loopw [10] (fun i wr => ∃ k : Nat, k ≤ n ∧ i = .int .i64 (k : Int) ∧ RowsF wr b N (srF a a2 k f) ∧ w.grownBy wr (some b)) (fun i _ => n - (intOf i).toNat)
  case atStart => exact ⟨0, Nat.zero_le _, rfl, by rw [sr_zero]; exact HR.out, World.grownBy.refl _ _⟩
  case round =>
    obtain ⟨k, hk, rfl, hr, hg⟩ := hrel
    have HG := Lib.hid hg; clear hg
    by_cases hlt : k < n
    · have hki : (k : Int) < (n : Int) := by omega
      obtain ⟨p, hp⟩ : ∃ p, p = a + k := ⟨_, rfl⟩
      obtain ⟨q, hq⟩ : ∃ q, q = a2 + k := ⟨_, rfl⟩
      have hpN : p < N := by omega
      have hqN : q < N := by omega
      have HS : Hid (srF a a2 (k + 1) f = swF p q (srF a a2 k f)) := Lib.hid (by rw [sr_succ (by omega), hp, hq])
      have hpq : p ≠ q := by omega
      generalize srF a a2 k f = F at *
      have e1 : (a : Int) + (k : Int) = (p : Int) := by omega
      have e2 : (a2 : Int) + (k : Int) = (q : Int) := by omega
      have w1 : IntKind.i64.wrap (p : Int) = (p : Int) := by rw [IntKind.wrap_i64]; omega
      have w2 : IntKind.i64.wrap (q : Int) = (q : Int) := by rw [IntKind.wrap_i64]; omega
      have hpi : (p : Int) < (N : Int) := by omega
      have hqi : (q : Int) < (N : Int) := by omega
      have hp0 : (0 : Int) ≤ (p : Int) := by omega
      have hq0 : (0 : Int) ≤ (q : Int) := by omega
      clear hp hq
      obtain ⟨x0, x1⟩ := hr.at_ hpN
      obtain ⟨y0, y1⟩ := hr.at_ hqN
      have f0 := hr.free (p * 2); have f1 := hr.free (p * 2 + 1); have f2 := hr.free (q * 2); have f3 := hr.free (q * 2 + 1)
      have HRR := Lib.hid hr; clear hr
      have n1 : ¬ p * 2 + 1 = q * 2 + 1 := by omega
      have n2 : ¬ p * 2 = q * 2 := by omega
      have n3 : ¬ p * 2 + 1 = q * 2 := by omega
      have n4 : ¬ p * 2 = q * 2 + 1 := by omega
      have n5 : ¬ q * 2 + 1 = p * 2 + 1 := by omega
      have n6 : ¬ q * 2 = p * 2 := by omega
      have n7 : ¬ q * 2 + 1 = p * 2 := by omega
      have n8 : ¬ q * 2 = p * 2 + 1 := by omega
      go_wp2_with fail
      go_region
      all_goals
        go_wp2
        go_roundw
        case rel => exact ⟨k + 1, by omega, by go_num, by rw [HS.out]; exact (swapped HRR.out HG.out p q).1.drew, grown_drew (swapped HRR.out HG.out p q).2⟩
        case measure => simp [intOf]; omega
    · obtain rfl : k = n := by omega
      go_wp2
      go_end0
      exact ⟨rfl, hr, HG.out⟩
end Go.Proofs.YtnbnegkoanidmaaGreatDoor

/-
  The contracts of slices.rotateCmpFunc and of the comparison of rows.
-/
namespace Go.Proofs.YtnbnegkoanidmaaGreatDoor
open Go.RowKit
set_option linter.unusedVariables false

theorem gr_trans {w w' w'' : World} {b : Nat} (h : w.grownBy w' (some b)) (h' : w'.grownBy w'' (some b)) : w.grownBy w'' (some b) :=
  ⟨h'.os.trans h.os, h'.tape.trans h.tape, h'.output.trans h.output, Nat.le_trans h.size h'.size, fun i hi hne => (h'.block i (Nat.lt_of_lt_of_le hi h.size) hne).trans (h.block i hi hne)⟩

set_option maxRecDepth 100000 in
set_option maxHeartbeats 1000000 in
theorem rotate_any (b N c : Nat) (a m hi : Nat) (f : Nat → Rq) (g : Value) (w : World) (h : RowsF w b N f) (hN : N ≤ 1000) (h1 : a < m) (h2 : m < hi) (h3 : hi ≤ N) :
    Calls Tryz.prog 91 #[.slice (some ⟨b, 0, none⟩) N c, .int .i64 (a : Int), .int .i64 (m : Int), .int .i64 (hi : Int), g] w fun e w' => SortTo w w' b N (roF a m hi f) e := by
  have HR := Lib.hid h; clear h
  have z1 : (m : Int) - (a : Int) = ((m - a : Nat) : Int) := by omega
  have z2 : (hi : Int) - (m : Int) = ((hi - m : Nat) : Int) := by omega
  go_enter Tryz.func91, Tryz.ntmps91
  go_wp2
  go_loopw [10, 11] (fun vi vj wr => ∃ (i j : Nat) (F : Nat → Rq), (1 ≤ i ∧ a + i ≤ m) ∧ (1 ≤ j ∧ m + j ≤ hi) ∧ vi = .int .i64 (i : Int) ∧ vj = .int .i64 (j : Int) ∧ RowsF wr b N F ∧ roF (m - i) m (m + j) F = roF a m hi f ∧ w.grownBy wr (some b)) (fun vi vj _ => (intOf vi + intOf vj).toNat)
  case atStart => exact ⟨m - a, hi - m, f, by omega, by omega, rfl, rfl, HR.out, by rw [show m - (m - a) = a from by omega, show m + (hi - m) = hi from by omega], World.grownBy.refl _ _⟩
  case round =>
    obtain ⟨i, j, F, ⟨hi1, hi2⟩, ⟨hj1, hj2⟩, rfl, rfl, hr, heq, hg⟩ := hrel
    have HG := Lib.hid hg; have HRR := Lib.hid hr; have HEQ := Lib.hid heq
    clear hg hr heq z1 z2
    obtain ⟨p, hp⟩ : ∃ p, p = m - i := ⟨_, rfl⟩
    have e1 : (m : Int) - (i : Int) = (p : Int) := by omega
    have HP := Lib.hid hp; clear hp
    rcases (by omega : i = j ∨ j < i ∨ i < j) with hij | hij | hij
    · subst hij
      have hbe : ((i : Int) != (i : Int)) = false := by simp
      go_wp2_with fail
      refine (swapRange_any b N c p m i F g _ HRR.out hN (by have := HP.out; omega) (by have := HP.out; omega)).mono ?_
      rintro e w1 ⟨rfl, hr1, hg1⟩
      have HR1 : Hid (RowsF w1 b N (roF a m hi f)) := Lib.hid (by rw [← HEQ.out, ← ro_even (by omega), ← HP.out]; exact hr1)
      have HG1 := Lib.hid (gr_trans HG.out hg1)
      clear hr1 hg1
      go_wp2
      go_end0
      exact ⟨rfl, HR1.out, HG1.out⟩
    · have hbe : ((i : Int) != (j : Int)) = true := by simp; omega
      have hgt : (j : Int) < (i : Int) := by omega
      go_wp2_with fail
      refine (swapRange_any b N c p m j F g _ HRR.out hN (by have := HP.out; omega) (by have := HP.out; omega)).mono ?_
      rintro e w1 ⟨rfl, hr1, hg1⟩
      have HR1 := Lib.hid hr1
      have HE1 : Hid (roF (m - (i - j)) m (m + j) (srF p m j F) = roF a m hi f) := Lib.hid (by rw [← HEQ.out, HP.out, ro_more (by omega) hij])
      have HG1 := Lib.hid (gr_trans HG.out hg1)
      clear hr1 hg1
      go_wp2
      go_roundw
      case rel => exact ⟨i - j, j, _, by omega, by omega, by go_num, rfl, HR1.out, HE1.out, HG1.out⟩
      case measure => simp [intOf]; omega
    · have hbe : ((i : Int) != (j : Int)) = true := by simp; omega
      have hgt : ¬ (j : Int) < (i : Int) := by omega
      obtain ⟨q, hq⟩ : ∃ q, q = m + j - i := ⟨_, rfl⟩
      have e2 : (m : Int) + (j : Int) - (i : Int) = (q : Int) := by omega
      have HQ := Lib.hid hq; clear hq
      go_wp2_with fail
      refine (swapRange_any b N c p q i F g _ HRR.out hN (by have := HP.out; have := HQ.out; omega) (by have := HQ.out; omega)).mono ?_
      rintro e w1 ⟨rfl, hr1, hg1⟩
      have HR1 := Lib.hid hr1
      have HE1 : Hid (roF (m - i) m (m + (j - i)) (srF p q i F) = roF a m hi f) := Lib.hid (by rw [← HEQ.out, HP.out, HQ.out, ro_less (by omega) hij])
      have HG1 := Lib.hid (gr_trans HG.out hg1)
      clear hr1 hg1
      go_wp2
      go_roundw
      case rel => exact ⟨i, j - i, _, by omega, by omega, rfl, by go_num, HR1.out, HE1.out, HG1.out⟩
      case measure => simp [intOf]; omega

def cmpI (x y : Int) : Int := if x < y then -1 else if y < x then 1 else 0
theorem isNaN_any (x : Int) (w : World) : Calls Tryz.prog 67 #[.int .i64 x] w fun e w' => e = .returned (.bool false) ∧ w = w' := by
  have h : (x != x) = false := by simp
  go_enter Tryz.func67, Tryz.ntmps67
  go_wp2
  go_ret
  exact ⟨rfl, rfl⟩
theorem compare_any (x y : Int) (w : World) : Calls Tryz.prog 48 #[.int .i64 x, .int .i64 y] w fun e w' => e = .returned (.int .i64 (cmpI x y)) ∧ w = w' := by
  have HE : Hid (cmpI x y = if x < y then -1 else if y < x then 1 else 0) := Lib.hid rfl
  rcases (by omega : x < y ∨ (¬ x < y ∧ y < x) ∨ (¬ x < y ∧ ¬ y < x)) with h1 | ⟨h1, h2⟩ | ⟨h1, h2⟩
  all_goals
    go_enter Tryz.func48, Tryz.ntmps48
    go_wp2_with (go_at_call 67; refine (isNaN_any _ _).mono ?_; rintro e w' ⟨rfl, rfl⟩)
    go_ret
  · exact ⟨ret_int (by rw [HE.out, if_pos h1]), rfl⟩
  · exact ⟨ret_int (by rw [HE.out, if_neg (by omega), if_pos h2]), rfl⟩
  · exact ⟨ret_int (by rw [HE.out, if_neg (by omega), if_neg (by omega)]), rfl⟩
theorem rowCmp_any (x y : Rq) (w : World) :
    Calls Tryz.prog 47 #[.agg #[.int .i64 x.i, .int .i64 x.v], .agg #[.int .i64 y.i, .int .i64 y.v]] w fun e w' => e = .returned (.int .i64 (cmpI y.v x.v)) ∧ Below w.heap.size w w' := by
  obtain ⟨xi, xv⟩ := x
  obtain ⟨yi, yv⟩ := y
  simp only
  go_enter Tryz.func47, Tryz.ntmps47
  go_wp2_with fail
  refine (compare_any _ _ _).mono ?_
  rintro e w' ⟨rfl, rfl⟩
  go_wp2
  go_ret
  exact ⟨rfl, ((Below.refl _ _).alloc (Nat.le_refl _) _).alloc (by simp) _⟩
theorem rowCmp_is (x y : Rq) (q : Int) (w : World) (h : Hid (cmpI y.v x.v = q)) :
    Calls Tryz.prog 47 #[.agg #[.int .i64 x.i, .int .i64 x.v], .agg #[.int .i64 y.i, .int .i64 y.v]] w fun e w' => e = .returned (.int .i64 q) ∧ Below w.heap.size w w' := by
  rw [← h.out]; exact rowCmp_any x y w
theorem cmp_neg {x y : Int} : cmpI x y < 0 ↔ x < y := by unfold cmpI; split <;> (try split) <;> omega
end Go.Proofs.YtnbnegkoanidmaaGreatDoor

/-
  The contract of slices.insertionSortCmpFunc at rows that stand in the order of their indices.
-/
namespace Go.Proofs.YtnbnegkoanidmaaGreatDoor
open Go.RowKit
set_option linter.unusedVariables false

set_option maxRecDepth 100000 in
set_option maxHeartbeats 4000000 in
theorem insertion_any (b N c : Nat) (a hi : Nat) (f : Nat → Rq) (w : World) (h : RowsF w b N f) (hN : N ≤ 1000) (h1 : a ≤ hi) (h2 : hi ≤ N) (hasc : Asc a hi f) :
    Calls Tryz.prog 80 #[.slice (some ⟨b, 0, none⟩) N c, .int .i64 (a : Int), .int .i64 (hi : Int), .func (.func 47) #[] #[]] w fun e w' => ∃ f', SortTo w w' b N f' e ∧ Same a hi f f' ∧ Srt a hi f' := by
  have HR := Lib.hid h; have HASC := Lib.hid hasc; clear h hasc
  go_enter Tryz.func80, Tryz.ntmps80
  go_wp2
  go_loopw [8] (fun vi wr => ∃ (i t : Nat) (F : Nat → Rq), vi = .int .i64 (i : Int) ∧ (a < i ∧ i ≤ hi + 1 ∧ t ≤ hi ∧ (t = i ∨ (hi = a ∧ t = a))) ∧ Out a t f F ∧ RowsF wr b N F ∧ w.grownBy wr (some b)) (fun vi _ => (hi + 1) - (intOf vi).toNat)
  case atStart =>
    by_cases e : hi = a
    · exact ⟨a + 1, a, f, by go_num, by omega, ⟨Same.refl _ _ _, fun k l h1 h2 h3 => by omega⟩, HR.out, World.grownBy.refl _ _⟩
    · exact ⟨a + 1, a + 1, f, by go_num, by omega, ⟨Same.refl _ _ _, fun k l h1 h2 h3 => by omega⟩, HR.out, World.grownBy.refl _ _⟩
  case round =>
    obtain ⟨i, t, F, rfl, ⟨i1, i2, i3, i4⟩, hout, hr, hg⟩ := hrel
    have HO := Lib.hid hout; have HRR := Lib.hid hr; have HG := Lib.hid hg
    clear hout hr hg
    by_cases hlt : i < hi
    · have hti : t = i := by omega
      have HT := Lib.hid hti
      have hlti : (i : Int) < (hi : Int) := by omega
      have HI0 : Hid (Inn a i i F) := Lib.hid (by have := HO.out; rw [hti] at this; exact this.start HASC.out hlt (by omega))
      have HS0 : Hid (Same a (i + 1) f F) := Lib.hid (by have := HO.out.same; rw [hti] at this; exact this.wide (Nat.le_refl _) (by omega))
      clear hti i4 i3
      go_wp2
      go_loopw [9] (fun vj wr2 => ∃ (j : Nat) (F : Nat → Rq), vj = .int .i64 (j : Int) ∧ Inn a i j F ∧ Same a (i + 1) f F ∧ RowsF wr2 b N F ∧ w.grownBy wr2 (some b)) (fun vj _ => (intOf vj).toNat)
      case atStart => exact ⟨i, F, rfl, HI0.out, HS0.out, HRR.out, HG.out⟩
      case round =>
        obtain ⟨j, F2, rfl, hinn, hsame, hr, hg⟩ := hrel
        have hja := hinn.lo; have hji := hinn.hi
        have HI := Lib.hid hinn; have HS := Lib.hid hsame; have HR2 := Lib.hid hr; have HG2 := Lib.hid hg
        clear hinn hsame hg HI0 HS0
        by_cases hjt : a < j
        · obtain ⟨p, hp⟩ : ∃ p, p = j - 1 := ⟨_, rfl⟩
          have HP : Hid (j = p + 1) := Lib.hid (by omega)
          have hgt : (a : Int) < (j : Int) := by omega
          have e1 : (j : Int) - 1 = (p : Int) := by omega
          have w1 : IntKind.i64.wrap (p : Int) = (p : Int) := by rw [IntKind.wrap_i64]; omega
          have w2 : wrap64 (p : Int) = (p : Int) := by unfold wrap64; omega
          have hpj : p < j := by omega
          have hap : a ≤ p := by omega
          have hpN : (p : Int) < (N : Int) := by omega
          have hjN : (j : Int) < (N : Int) := by omega
          have hp0 : (0 : Int) ≤ (p : Int) := by omega
          have hj0 : (0 : Int) ≤ (j : Int) := by omega
          clear hp
          have hbl := hr.lt
          obtain ⟨x0, x1⟩ := hr.at_ (show j < N by omega)
          obtain ⟨y0, y1⟩ := hr.at_ (show p < N by omega)
          have k0 := KeptW.cell x0 hbl; have k1 := KeptW.cell x1 hbl; have k2 := KeptW.cell y0 hbl; have k3 := KeptW.cell y1 hbl
          clear x0 x1 y0 y1 hr
          obtain ⟨q, hq⟩ : ∃ q, cmpI (F2 p).v (F2 j).v = q := ⟨_, rfl⟩
          have HQ := Lib.hid hq
          by_cases hls : (F2 p).v < (F2 j).v
          · have hqn : q < 0 := by rw [← hq]; exact cmp_neg.2 hls
            have HL := Lib.hid hls
            clear hq hls
            go_wp2_with fail
            refine region_kept wr.heap.size (by kernel_rfl) (by kernel_rfl) ?_
            repeat (go_big_quiet_step (fail))
            go_big_quiet_step ((go_at_call 47; exact kept_call _ (Nat.le_refl _) (rowCmp_is (F2 j) (F2 p) q _ HQ)))
            repeat (go_big_quiet_step (fail))
            refine wpQuiet_nil ?_
            intro w3 hb3
            have HR3 := Lib.hid (HR2.out.below hb3)
            have HG3 := Lib.hid (grown_below HG2.out hb3)
            clear k0 k1 k2 k3 hb3
            obtain ⟨x0, x1⟩ := HR3.out.at_ (show j < N by omega)
            obtain ⟨y0, y1⟩ := HR3.out.at_ (show p < N by omega)
            have f0 := HR3.out.free (p * 2); have f1 := HR3.out.free (p * 2 + 1); have f2 := HR3.out.free (j * 2); have f3 := HR3.out.free (j * 2 + 1)
            have n1 : ¬ p * 2 + 1 = j * 2 + 1 := by omega
            have n2 : ¬ p * 2 = j * 2 := by omega
            have n3 : ¬ p * 2 + 1 = j * 2 := by omega
            have n4 : ¬ p * 2 = j * 2 + 1 := by omega
            have n5 : ¬ j * 2 + 1 = p * 2 + 1 := by omega
            have n6 : ¬ j * 2 = p * 2 := by omega
            have n7 : ¬ j * 2 + 1 = p * 2 := by omega
            have n8 : ¬ j * 2 = p * 2 + 1 := by omega
            go_wp2_with fail
            go_region
            all_goals
              go_wp2
              go_roundw
              case rel => exact ⟨p, _, rfl, by have h := HI.out; have e := HP.out; subst e; exact h.step hap HL.out, HS.out.trans (sw_same (by omega) (by omega) (by omega) (by omega)), by have e := HP.out; subst e; exact (swapped HR3.out HG3.out (p + 1) p).1.drew, by have e := HP.out; subst e; exact grown_drew (swapped HR3.out HG3.out (p + 1) p).2⟩
              case measure => simp [intOf]; omega
          · have hqn : ¬ q < 0 := by rw [← hq]; exact fun h => hls (cmp_neg.1 h)
            have HL := Lib.hid hls
            clear hq hls
            go_wp2_with fail
            refine region_kept wr.heap.size (by kernel_rfl) (by kernel_rfl) ?_
            repeat (go_big_quiet_step (fail))
            go_big_quiet_step ((go_at_call 47; exact kept_call _ (Nat.le_refl _) (rowCmp_is (F2 j) (F2 p) q _ HQ)))
            repeat (go_big_quiet_step (fail))
            refine wpQuiet_nil ?_
            intro w3 hb3
            have HR3 := Lib.hid (HR2.out.below hb3)
            have HG3 := Lib.hid (grown_below HG2.out hb3)
            clear k0 k1 k2 k3 hb3
            go_wp2
            go_roundw
            case rel => exact ⟨i + 1, i + 1, F2, by go_num, by omega, ⟨HS.out, by have h := HI.out; have e := HP.out; subst e; exact h.stop hap (by have := HL.out; omega)⟩, HR3.out, HG3.out⟩
            case measure => simp [intOf]; omega
        · obtain rfl : j = a := by omega
          have hgt : ¬ (j : Int) < (j : Int) := by omega
          go_wp2_with fail
          go_region
          all_goals
            go_wp2
            go_roundw
            case rel => exact ⟨i + 1, i + 1, F2, by go_num, by omega, ⟨HS.out, HI.out.front⟩, HR2.out.drew, grown_drew HG2.out⟩
            case measure => simp [intOf]; omega
    · have hlti : ¬ (i : Int) < (hi : Int) := by omega
      have HT : Hid (t = hi) := Lib.hid (by omega)
      go_wp2
      go_end0
      exact ⟨F, ⟨rfl, HRR.out, HG.out⟩, by have h := HO.out.same; rw [HT.out] at h; exact h, by have h := HO.out.srt; rw [HT.out] at h; exact h⟩
end Go.Proofs.YtnbnegkoanidmaaGreatDoor
