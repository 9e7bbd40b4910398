/-
  The contracts of math/bits.Mul at 1 and a number of at most 6, and of slices.Repeat at one number.
-/
import Derived.Test.YthhmbcgamcbfdaaDoorVb
import Derived.Laws.CopyRow
import Derived.BigRegion
namespace Go.Proofs.YthhmbcgamcbfdaaDoor
open Go.RowKit
set_option linter.unusedVariables false

theorem mul64_any (y : Nat) (hy : y ≤ 6) (w : World) :
    Calls Tryd.prog 61 #[.int .u64 1, .int .u64 (y : Int)] w fun e w' => e = .returned (.tuple #[.int .u64 0, .int .u64 (y : Int)]) ∧ w = w' := by
  rcases (by omega : y = 0 ∨ y = 1 ∨ y = 2 ∨ y = 3 ∨ y = 4 ∨ y = 5 ∨ y = 6) with rfl | rfl | rfl | rfl | rfl | rfl | rfl <;>
  · go_enter Tryd.func61, Tryd.ntmps61
    go_wp2
    go_ret2
    exact ⟨by rfl, rfl⟩
theorem mul_any (y : Nat) (hy : y ≤ 6) (w : World) :
    Calls Tryd.prog 56 #[.int .u64 1, .int .u64 (y : Int)] w fun e w' => e = .returned (.tuple #[.int .u64 0, .int .u64 (y : Int)]) ∧ w = w' := by
  go_enter Tryd.func56, Tryd.ntmps56
  go_wp2_with fail
  refine (mul64_any y hy _).mono ?_
  rintro e w' ⟨rfl, rfl⟩
  go_wp2
  go_ret2
  exact ⟨rfl, rfl⟩
def repF (m : Nat) : Nat → Value := fun j => .int .i64 (if j < m then 400 else 0)
theorem info_int1 : (Tryd.prog.info? 3).map (·.size) = some 1 := by kernel_rfl
theorem run_copy_rep (w : World) (ty : TypeId) (g y m k dC sC : Nat) (a : Addr) (sLen dLen : Nat) (h : Tb w g 3 y (repF m)) (hk : k = Nat.min sLen dLen) (hmk : m + k ≤ y) (hs : ∀ j, j < k → w.cell? (a.add j) = some (.int .i64 400)) :
    ∃ w', (Builtin.copy_ #[23, 23] ty #[.slice (some ⟨g, m, none⟩) dLen dC, .slice (some a) sLen sC]).run Tryd.prog w = .ok (goInt k) w' ∧ Tb w' g 3 y (repF (m + k)) ∧ w.grownBy w' (some g) := by
  obtain ⟨cur, h1, h2, h3⟩ := h
  have hrun := run_copy_row (P := Tryd.prog) w 23 23 ty 3 g m dLen dC a sLen sC cur 3 (List.replicate k (.int .i64 400)) Tryd.underlying23 info_int1 h1 (by simpa using hk)
    (fun j v hj => by
      have hjk : j < k := by have := (List.getElem?_eq_some_iff.1 hj).1; simpa using this
      rw [List.getElem?_replicate, if_pos hjk] at hj
      rw [hs j hjk]; exact hj) (by simp; omega) (by intro v hv; rw [List.eq_of_mem_replicate hv]; rfl)
  rw [List.length_replicate] at hrun
  refine ⟨_, hrun, ⟨_, setRow_heap w g cur _ _ _ h1, by simp; omega, fun j hj => ?_⟩, ⟨rfl, rfl, rfl, by simp [World.setRow], fun i hi hne => setRow_other w g i _ (fun e => hne (by rw [e]))⟩⟩
  unfold repF
  rw [List.getElem?_toArray, List.append_assoc, List.getElem?_append]
  have ht : (cur.toList.take m).length = m := by simp; omega
  rw [ht]
  by_cases h4 : j < m
  · rw [if_pos h4, if_pos (by omega), List.getElem?_take_of_lt h4]
    have := h3 j hj
    unfold repF at this
    rw [if_pos h4] at this
    simpa using this
  · rw [if_neg h4, List.getElem?_append, List.length_replicate]
    by_cases h5 : j - m < k
    · rw [if_pos h5, if_pos (by omega), List.getElem?_replicate, if_pos h5]
    · rw [if_neg h5, if_neg (by omega), List.getElem?_drop, show m + k + (j - m - k) = j from by omega]
      have := h3 j hj
      unfold repF at this
      rw [if_neg h4] at this
      simpa using this

set_option maxRecDepth 100000 in
theorem repeat_any (b y : Nat) (hy : y ≤ 6) (w : World) (hb : w.cell? ⟨b, 0, none⟩ = some (.int .i64 400)) (hbl : b < w.heap.size) :
    Calls Tryd.prog 49 #[.slice (some ⟨b, 0, none⟩) 1 1, .int .i64 (y : Int)] w fun e w' => e = .returned (.slice (some ⟨w.heap.size, 0, none⟩) y y) ∧ Below w.heap.size w w' ∧ Tb w' w.heap.size 3 y (repF y) := by
  obtain ⟨w1, hw1⟩ : ∃ x : World, x = w.alloc (.cells (madeCells #[.int .i64 0] (y * 1)) 3) := ⟨_, rfl⟩
  have hmk : (Instr.makeSlice 23 (.int .i64 (y : Int)) (.int .i64 (y : Int))).run Tryd.prog w = .ok (.slice (some ⟨w.heap.size, 0, none⟩) y y) w1 := by rw [hw1]; exact run_makeI y (by omega) w
  have ht : Tb w1 w.heap.size 3 y (repF 0) := by rw [hw1]; exact made_int _ _ _
  have hb1 : Below w.heap.size w w1 := by rw [hw1]; exact (Below.refl _ _).alloc (Nat.le_refl _) _
  have hc1 := (hb1.cell (p := ⟨b, 0, none⟩) hbl).trans hb
  obtain ⟨k, hk⟩ : ∃ k, k = Nat.min 1 y := ⟨_, rfl⟩
  have hk1 : k ≤ 1 ∧ k ≤ y := by rw [hk]; exact ⟨Nat.min_le_left _ _, Nat.min_le_right _ _⟩
  have hk2 : y = 0 ∨ k = 1 := by rcases Nat.eq_zero_or_pos y with h | h; · exact .inl h
                                 · right; rw [hk]; exact Nat.min_eq_left h
  obtain ⟨w2, hcp, ht2, hg2⟩ := run_copy_rep w1 3 w.heap.size y 0 k y 1 ⟨b, 0, none⟩ 1 y ht hk (by omega) (by
    intro j hj
    obtain rfl : j = 0 := by omega
    exact hc1)
  rw [Nat.zero_add] at ht2
  have HB2 := Lib.hid (hb1.grown hg2 hb1.size (fun q e => by cases e; exact Nat.le_refl _))
  have HT2 := Lib.hid ht2
  have HK := Lib.hid hk
  clear hw1 hb1 ht ht2 hg2 hc1 hk
  have hn0 : ¬ (y : Int) < 0 := by omega
  have h80 : ¬ (y : Int) > 9223372036854775807 := by omega
  go_enter Tryd.func49, Tryd.ntmps49
  go_wp2_with fail
  refine (mul_any y hy _).mono ?_
  rintro e w' ⟨rfl, rfl⟩
  go_wp2
  go_loopw [8] (fun i wr => ∃ m : Nat, m ≤ y ∧ (y = 0 ∨ 1 ≤ m) ∧ i = .int .i64 (m : Int) ∧ Tb wr w.heap.size 3 y (repF m) ∧ Below w.heap.size w wr) (fun i _ => y - (intOf i).toNat)
  case atStart => exact ⟨k, hk1.2, by omega, rfl, HT2.out, HB2.out⟩
  case round =>
    obtain ⟨m, hm, hm1, rfl, ht, hb⟩ := hrel
    clear hmk hcp
    by_cases hlt : m < y
    · obtain ⟨q, hq⟩ : ∃ q, q = Nat.min m (y - m) := ⟨_, rfl⟩
      have hq1 : q ≤ m ∧ q ≤ y - m := by rw [hq]; exact ⟨Nat.min_le_left _ _, Nat.min_le_right _ _⟩
      have hq2 : 1 ≤ q := by rw [hq]; exact Nat.le_min.2 ⟨by omega, by omega⟩
      have src : ∀ W, Tb W w.heap.size 3 y (repF m) → ∀ j, j < q → W.cell? ((⟨w.heap.size, 0, none⟩ : Addr).add j) = some (.int .i64 400) := fun W hW j hj => by
        rw [add_flat, Nat.zero_add, hW.cell (by omega)]
        unfold repF; rw [if_pos (by omega)]
      have htd := ht.next ((Below.refl _ _).drew)
      obtain ⟨w3, hc3, ht3, hg3⟩ := run_copy_rep wr 3 w.heap.size y m q (y - m) y ⟨w.heap.size, 0, none⟩ m (y - m) ht hq (by omega) (src _ ht)
      obtain ⟨w4, hc4, ht4, hg4⟩ := run_copy_rep wr.drew 3 w.heap.size y m q (y - m) y ⟨w.heap.size, 0, none⟩ m (y - m) htd hq (by omega) (src _ htd)
      have HB3 := Lib.hid (hb.grown hg3 hb.size (fun q e => by cases e; exact Nat.le_refl _))
      have HB4 := Lib.hid (hb.drew.grown hg4 hb.drew.size (fun q e => by cases e; exact Nat.le_refl _))
      have HT3 := Lib.hid ht3; have HT4 := Lib.hid ht4
      have HQ : Hid (m + q ≤ y) := Lib.hid (by omega)
      have HM : Hid (y - (m + q) < y - m) := Lib.hid (by omega)
      have hmy : (m : Int) < (y : Int) := by omega
      have hmy1 : (m : Int) ≤ (y : Int) := by omega
      have hm0 : (0 : Int) ≤ (m : Int) := by omega
      clear ht hb htd ht3 ht4 hg3 hg4 src hq
      go_wp2_with fail
      go_region
      go_wp2
      go_roundw
      case rel => exact ⟨m + q, HQ.out, .inr (by omega), by go_num, (by first | exact HT3.out | exact HT4.out), (by first | exact HB3.out | exact HB4.out)⟩
      case measure => simp [intOf]; omega
    · obtain rfl : m = y := by omega
      have HT := Lib.hid ht; have HB := Lib.hid hb
      clear ht hb
      go_wp2
      go_ret
      exact ⟨rfl, HB.out, HT.out⟩
end Go.Proofs.YthhmbcgamcbfdaaDoor
