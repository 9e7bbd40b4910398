/-
  For FnSpaces: the fewest spaces fill the width, part by part; laws.qInts and laws.qHas.
-/
import Derived.Test.YthhmbcgamcbfdaaDoorWd
import Derived.Test.YthhmbcgamcbfdaaDoorWc
import Derived.Test.YthhmbcgamcbfdaaDoorVm
import Derived.BigRegion
namespace Go.Proofs.YthhmbcgamcbfdaaDoor
open Go.RowKit
set_option linter.unusedVariables false

theorem few_nn {ks : List Int} (hp : Pos ks) {N : Int} (hc : Can ks N) {j : Nat} (hj : j ≤ ks.length) : 0 ≤ remF ks N j := can_nonneg hp (rem_left hp hc j hj).1
theorem few_le {ks : List Int} (hp : Pos ks) {N : Int} : ∀ j : Nat, j ≤ ks.length → remF ks N j ≤ N
  | 0, _ => Int.le_refl _
  | j + 1, hj => by
    have ih := few_le hp (N := N) j (by omega)
    have h2 := Int.mul_nonneg (show (0 : Int) ≤ (useC ks (remF ks N j) (ks.getD (ks.length - 1 - j) 0) : Int) by omega) (show 0 ≤ ks.getD (ks.length - 1 - j) 0 by have := getD_pos hp (show ks.length - 1 - j < ks.length by omega); omega)
    show remF ks N j - (useC ks (remF ks N j) (ks.getD (ks.length - 1 - j) 0) : Int) * ks.getD (ks.length - 1 - j) 0 ≤ N
    omega
theorem few_step {ks : List Int} {N : Int} {k : Nat} (hk : k < ks.length) : remF ks N (ks.length - (k + 1)) = remF ks N (ks.length - k) + (cntF ks N k : Int) * ks[k] := by
  have e : remF ks N (ks.length - k) = remF ks N (ks.length - (k + 1)) - (useC ks (remF ks N (ks.length - (k + 1))) (ks.getD (ks.length - 1 - (ks.length - (k + 1))) 0) : Int) * ks.getD (ks.length - 1 - (ks.length - (k + 1))) 0 := by
    rw [show ks.length - k = (ks.length - (k + 1)) + 1 from by omega]; rfl
  rw [show ks.length - 1 - (ks.length - (k + 1)) = k from by omega, getD_of hk] at e
  rw [e]
  unfold cntF
  rw [getD_of hk, show ks.length - 1 - k = ks.length - (k + 1) from by omega]
  omega
theorem few_end {ks : List Int} (hp : Pos ks) {N : Int} (hc : Can ks N) : remF ks N ks.length = 0 := by
  obtain ⟨h1, h2⟩ := rem_left hp hc ks.length (Nat.le_refl _)
  rw [Nat.sub_self] at h2
  obtain ⟨m, hm0, hr, _⟩ := fewV_yes h1
  have hm := hm0.symm
  have := left_rep hp (k := 0) m _ hr hm h2
  rw [List.take_zero] at this
  cases m with
  | zero => exact this
  | succ m => obtain ⟨k, hk, _⟩ := this; cases hk

set_option maxRecDepth 100000 in
theorem qInts_any (l : List Int) (A B : Option Addr) (c d : Nat) (w : World) (hf : IntsIn w A l) (hg : IntsIn w B l) (hn : l.length ≤ 1048576) :
    Calls Tryd.prog 12 #[.slice A l.length c, .slice B l.length d] w fun e w' => e = .returned (.bool true) ∧ Below w.heap.size w w' := by
  have HF := Lib.hid hf; have HG := Lib.hid hg; clear hf hg
  go_enter Tryd.func12, Tryd.ntmps12
  go_wp2
  go_loopw [13] (fun i wr => ∃ k : Nat, k ≤ l.length ∧ i = .int .i64 (k : Int) ∧ Below w.heap.size w wr) (fun i _ => l.length - (intOf i).toNat)
  case atStart => exact ⟨0, Nat.zero_le _, rfl, Below.refl _ _⟩
  case round =>
    obtain ⟨k, hk, rfl, hb⟩ := hrel
    by_cases hlt : k < l.length
    · obtain ⟨b, off, rfl, hbl, hc⟩ := HF.out (by omega)
      obtain ⟨b', off', rfl, hbl', hc'⟩ := HG.out (by omega)
      have k0 := KeptW.cell ((hb.cell (p := ⟨b, off + k, none⟩) hbl).trans (hc k hlt)) (by show b < wr.heap.size; have := hb.size; omega)
      have k1 := KeptW.cell ((hb.cell (p := ⟨b', off' + k, none⟩) hbl').trans (hc' k hlt)) (by show b' < wr.heap.size; have := hb.size; omega)
      have hkl : (k : Int) < (l.length : Int) := by omega
      have hk0 : (0 : Int) ≤ (k : Int) := by omega
      have HB := Lib.hid hb
      clear hc hc' hb
      generalize l[k]'hlt = x at *
      have hne : (x != x) = false := by simp
      go_wp2_with fail
      refine region_kept wr.heap.size (by kernel_rfl) (by kernel_rfl) ?_
      repeat (go_big_quiet_step (fail))
      refine wpQuiet_nil ?_
      intro w9 hb9
      have HB9 := Lib.hid (HB.out.trans (hb9.mono HB.out.size))
      clear k0 k1 hb9
      go_wp2
      go_roundw
      case rel => exact ⟨k + 1, by omega, by go_num, HB9.out⟩
      case measure => simp [intOf]; omega
    · obtain rfl : k = l.length := by omega
      go_wp2
      go_ret
      exact ⟨rfl, hb⟩

end Go.Proofs.YthhmbcgamcbfdaaDoor
