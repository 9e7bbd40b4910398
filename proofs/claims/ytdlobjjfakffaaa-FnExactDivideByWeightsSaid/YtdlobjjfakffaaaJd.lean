/-
  The contracts of slices.rotateCmpFunc and of the comparison of rows.
-/
import Derived.Test.YtdlobjjfakffaaaJc
import Derived.Test.YtdlobjjfakffaaaTail
namespace Go.Proofs.Ytdlobjjfakffaaa
open Go.RowKit
set_option linter.unusedVariables false

theorem gr_trans {w w' w'' : World} {b : Nat} (h : w.grownBy w' (some b)) (h' : w'.grownBy w'' (some b)) : w.grownBy w'' (some b) :=
  ⟨h'.os.trans h.os, h'.tape.trans h.tape, h'.output.trans h.output, Nat.le_trans h.size h'.size, fun i hi hne => (h'.block i (Nat.lt_of_lt_of_le hi h.size) hne).trans (h.block i hi hne)⟩

set_option maxRecDepth 100000 in
set_option maxHeartbeats 1000000 in
theorem rotate_any (b N c : Nat) (a m hi : Nat) (f : Nat → Rq) (g : Value) (w : World) (h : RowsF w b N f) (hN : N ≤ 1000) (h1 : a < m) (h2 : m < hi) (h3 : hi ≤ N) :
    Calls Try.prog 23 #[.slice (some ⟨b, 0, none⟩) N c, .int .i64 (a : Int), .int .i64 (m : Int), .int .i64 (hi : Int), g] w fun e w' => SortTo w w' b N (roF a m hi f) e := by
  have HR := Lib.hid h; clear h
  have z1 : (m : Int) - (a : Int) = ((m - a : Nat) : Int) := by omega
  have z2 : (hi : Int) - (m : Int) = ((hi - m : Nat) : Int) := by omega
  go_enter Try.func23, Try.ntmps23
  go_wp2
  go_loopw [10, 11] (fun vi vj wr => ∃ (i j : Nat) (F : Nat → Rq), (1 ≤ i ∧ a + i ≤ m) ∧ (1 ≤ j ∧ m + j ≤ hi) ∧ vi = .int .i64 (i : Int) ∧ vj = .int .i64 (j : Int) ∧ RowsF wr b N F ∧ roF (m - i) m (m + j) F = roF a m hi f ∧ w.grownBy wr (some b)) (fun vi vj _ => (intOf vi + intOf vj).toNat)
  case atStart => exact ⟨m - a, hi - m, f, by omega, by omega, rfl, rfl, HR.out, by rw [show m - (m - a) = a from by omega, show m + (hi - m) = hi from by omega], World.grownBy.refl _ _⟩
  case round =>
    obtain ⟨i, j, F, ⟨hi1, hi2⟩, ⟨hj1, hj2⟩, rfl, rfl, hr, heq, hg⟩ := hrel
    have HG := Lib.hid hg; have HRR := Lib.hid hr; have HEQ := Lib.hid heq
    clear hg hr heq z1 z2
    obtain ⟨p, hp⟩ : ∃ p, p = m - i := ⟨_, rfl⟩
    have e1 : (m : Int) - (i : Int) = (p : Int) := by omega
    have HP := Lib.hid hp; clear hp
    rcases (by omega : i = j ∨ j < i ∨ i < j) with hij | hij | hij
    · subst hij
      have hbe : ((i : Int) != (i : Int)) = false := by simp
      go_wp2_with fail
      refine (swapRange_any b N c p m i F g _ HRR.out hN (by have := HP.out; omega) (by have := HP.out; omega)).mono ?_
      rintro e w1 ⟨rfl, hr1, hg1⟩
      have HR1 : Hid (RowsF w1 b N (roF a m hi f)) := Lib.hid (by rw [← HEQ.out, ← ro_even (by omega), ← HP.out]; exact hr1)
      have HG1 := Lib.hid (gr_trans HG.out hg1)
      clear hr1 hg1
      go_wp2
      go_end0
      exact ⟨rfl, HR1.out, HG1.out⟩
    · have hbe : ((i : Int) != (j : Int)) = true := by simp; omega
      have hgt : (j : Int) < (i : Int) := by omega
      go_wp2_with fail
      refine (swapRange_any b N c p m j F g _ HRR.out hN (by have := HP.out; omega) (by have := HP.out; omega)).mono ?_
      rintro e w1 ⟨rfl, hr1, hg1⟩
      have HR1 := Lib.hid hr1
      have HE1 : Hid (roF (m - (i - j)) m (m + j) (srF p m j F) = roF a m hi f) := Lib.hid (by rw [← HEQ.out, HP.out, ro_more (by omega) hij])
      have HG1 := Lib.hid (gr_trans HG.out hg1)
      clear hr1 hg1
      go_wp2
      go_roundw
      case rel => exact ⟨i - j, j, _, by omega, by omega, by go_num, rfl, HR1.out, HE1.out, HG1.out⟩
      case measure => simp [intOf]; omega
    · have hbe : ((i : Int) != (j : Int)) = true := by simp; omega
      have hgt : ¬ (j : Int) < (i : Int) := by omega
      obtain ⟨q, hq⟩ : ∃ q, q = m + j - i := ⟨_, rfl⟩
      have e2 : (m : Int) + (j : Int) - (i : Int) = (q : Int) := by omega
      have HQ := Lib.hid hq; clear hq
      go_wp2_with fail
      refine (swapRange_any b N c p q i F g _ HRR.out hN (by have := HP.out; have := HQ.out; omega) (by have := HQ.out; omega)).mono ?_
      rintro e w1 ⟨rfl, hr1, hg1⟩
      have HR1 := Lib.hid hr1
      have HE1 : Hid (roF (m - i) m (m + (j - i)) (srF p q i F) = roF a m hi f) := Lib.hid (by rw [← HEQ.out, HP.out, HQ.out, ro_less (by omega) hij])
      have HG1 := Lib.hid (gr_trans HG.out hg1)
      clear hr1 hg1
      go_wp2
      go_roundw
      case rel => exact ⟨i, j - i, _, by omega, by omega, rfl, by go_num, HR1.out, HE1.out, HG1.out⟩
      case measure => simp [intOf]; omega

def cmpI (x y : Int) : Int := if x < y then -1 else if y < x then 1 else 0
theorem isNaN_any (x : Int) (w : World) : Calls Try.prog 20 #[.int .i64 x] w fun e w' => e = .returned (.bool false) ∧ w = w' := by
  have h : (x != x) = false := by simp
  go_enter Try.func20, Try.ntmps20
  go_wp2
  go_ret
  exact ⟨rfl, rfl⟩
theorem compare_any (x y : Int) (w : World) : Calls Try.prog 18 #[.int .i64 x, .int .i64 y] w fun e w' => e = .returned (.int .i64 (cmpI x y)) ∧ w = w' := by
  have HE : Hid (cmpI x y = if x < y then -1 else if y < x then 1 else 0) := Lib.hid rfl
  rcases (by omega : x < y ∨ (¬ x < y ∧ y < x) ∨ (¬ x < y ∧ ¬ y < x)) with h1 | ⟨h1, h2⟩ | ⟨h1, h2⟩
  all_goals
    go_enter Try.func18, Try.ntmps18
    go_wp2_with (go_at_call 20; refine (isNaN_any _ _).mono ?_; rintro e w' ⟨rfl, rfl⟩)
    go_ret
  · exact ⟨ret_int (by rw [HE.out, if_pos h1]), rfl⟩
  · exact ⟨ret_int (by rw [HE.out, if_neg (by omega), if_pos h2]), rfl⟩
  · exact ⟨ret_int (by rw [HE.out, if_neg (by omega), if_neg (by omega)]), rfl⟩
theorem rowCmp_any (x y : Rq) (w : World) :
    Calls Try.prog 17 #[.agg #[.int .i64 x.i, .int .i64 x.v], .agg #[.int .i64 y.i, .int .i64 y.v]] w fun e w' => e = .returned (.int .i64 (cmpI y.v x.v)) ∧ Below w.heap.size w w' := by
  obtain ⟨xi, xv⟩ := x
  obtain ⟨yi, yv⟩ := y
  simp only
  go_enter Try.func17, Try.ntmps17
  go_wp2_with fail
  refine (compare_any _ _ _).mono ?_
  rintro e w' ⟨rfl, rfl⟩
  go_wp2
  go_ret
  exact ⟨rfl, ((Below.refl _ _).alloc (Nat.le_refl _) _).alloc (by simp) _⟩
theorem rowCmp_is (x y : Rq) (q : Int) (w : World) (h : Hid (cmpI y.v x.v = q)) :
    Calls Try.prog 17 #[.agg #[.int .i64 x.i, .int .i64 x.v], .agg #[.int .i64 y.i, .int .i64 y.v]] w fun e w' => e = .returned (.int .i64 q) ∧ Below w.heap.size w w' := by
  rw [← h.out]; exact rowCmp_any x y w
theorem cmp_neg {x y : Int} : cmpI x y < 0 ↔ x < y := by unfold cmpI; split <;> (try split) <;> omega
end Go.Proofs.Ytdlobjjfakffaaa
