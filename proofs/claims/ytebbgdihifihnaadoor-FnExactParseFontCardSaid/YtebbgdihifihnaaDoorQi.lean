/-
  strings.IndexRune at an ASCII text of four bytes or more and a rune from 128 on: it answers -1. (For ParseFont.)
-/
import Derived.Test.YtebbgdihifihnaaDoorQe
import Derived.Test.YtebbgdihifihnaaDoorShp
import Derived.Lib.DecodeN
import Derived.Lib.OthersKept
import Derived.Laws.Runes
import Derived.Laws.RangeAny
import Derived.Deep.LoopGhost
import Derived.RegionTactic
import Derived.WalkMore
namespace Go.Proofs.YtebbgdihifihnaaDoor.P
open Go.RowKit
set_option linter.unusedVariables false

/-- All bytes are below 128. -/
def Asc (s : ByteArray) : Prop := ∀ (j : Nat) (h : j < s.size), (s[j]).toNat < 128
theorem asc_no {s : ByteArray} {y : UInt8} (h : Asc s) (hy : 128 ≤ y.toNat) (a : Nat) : Lib.indexByte (s.extract a s.size).data.toList y = -1 := by
  refine ix_no (fun j e => ?_)
  rw [ex_rest, List.getElem?_drop] at e
  have hl : a + j < s.size := by
    have := (List.getElem?_eq_some_iff.1 e).1
    simpa using this
  rw [list_at hl] at e
  have := h (a + j) hl
  rw [Option.some.inj e] at this
  omega
theorem iter_below (w : World) (s : ByteArray) (i : Nat) : Below w.heap.size w (w.iter s i) := (Below.refl _ _).alloc (Nat.le_refl _) _

set_option maxRecDepth 100000 in
set_option maxHeartbeats 2000000 in
theorem idxRune_err (s : ByteArray) (w : World) (ha : Asc s) (hs : s.size ≤ 1000) :
    Calls Tryd.prog 102 #[.string s, .int .i32 65533] w fun e w' => e = .returned (.int .i64 (-1)) ∧ Below w.heap.size w w' := by
  have HA := Lib.hid ha; clear ha
  go_enter Tryd.func102, Tryd.ntmps102
  go_wp2
  go_loopg [5, 6] s.size (fun g _ _ wx => ∃ i : Nat, i + g = s.size ∧ wx = w.iter s i)
  case atStart => exact ⟨0, by omega, rfl⟩
  case round =>
    obtain ⟨i, hig, rfl⟩ := hrel
    cases gk with
    | zero =>
      obtain rfl : i = s.size := by omega
      have hnx := run_next_end (P := Tryd.prog) w s s.size
      go_wp2
      go_ret
      exact ⟨rfl, iter_below _ _ _⟩
    | succ g =>
      have hi : i < s.size := by omega
      have hx := HA.out i hi
      have hnx := fun ty => run_next_ascii (P := Tryd.prog) w s i ty hi hx
      have hne : ((s[i]).toNat : Int) ≠ 65533 := by omega
      generalize s[i] = x at *
      go_wp2
      go_roundg g
      case measure => omega
      case rel => exact ⟨i + 1, by omega, rfl⟩

set_option maxRecDepth 100000 in
set_option maxHeartbeats 2000000 in
theorem idxRune_far (s : ByteArray) (r : Int) (w : World) (ha : Asc s) (h4 : 4 ≤ s.size) (hs : s.size ≤ 1000) (hr : 128 ≤ r) (hr2 : r ≤ 1114111) :
    Calls Tryd.prog 102 #[.string s, .int .i32 r] w fun e w' => e = .returned (.int .i64 (-1)) ∧ Below w.heap.size w w' := by
  by_cases he : r = 65533
  · subst he; exact idxRune_err s w ha hs
  have hV := Tryd.utf8_ValidRune r w
  have hnr : ¬ r < 128 := by omega
  cases hv : Lib.validRune r
  · rw [hv] at hV
    go_enter Tryd.func102, Tryd.ntmps102
    go_wp2_with fail
    refine hV.mono ?_
    rintro e w' ⟨rfl, rfl⟩
    go_wp2
    go_ret
    exact ⟨rfl, Below.refl _ _⟩
  · rw [hv] at hV
    have hv2 : Utf8.valid r = true := by
      unfold Lib.validRune at hv
      unfold Utf8.valid
      simp at hv ⊢
      omega
    obtain ⟨e2, e4, el⟩ := encode_facts r hv2 hr
    obtain ⟨k, hk⟩ : ∃ k, (Utf8.encode r).size = k + 1 := ⟨(Utf8.encode r).size - 1, by omega⟩
    have hk1 : k < (Utf8.encode r).size := by omega
    have hyl : 128 ≤ ((Utf8.encode r)[k]'hk1).toNat := by
      have := el (by omega)
      have hkk : (Utf8.encode r).size - 1 = k := by omega
      simpa [hkk] using this
    have HIB : Hid (∀ (y : UInt8) (W : World), 128 ≤ y.toNat → Calls Tryd.prog 125 #[.string (s.extract (k + 1) s.size), .int .u8 (y.toNat : Int)] W fun e w' => e = .returned (.int .i64 (-1)) ∧ W = w') := Lib.hid (fun y W hy => by
      refine (Tryd.strings_IndexByte (s.extract (k + 1) s.size) (y.toNat : Int) W).mono ?_
      rintro e w' ⟨rfl, hw⟩
      refine ⟨?_, hw.symm⟩
      have := asc_no ha hy (k + 1)
      rw [show ((y.toNat : Int)).toNat.toUInt8 = y by simp, this])
    have hks : k < s.size := by omega
    have hx := ha k hks
    have hxy : ((s[k]).toNat : Int) ≠ (((Utf8.encode r)[k]'hk1).toNat : Int) := by omega
    have hcv : ∀ W : World, (convert 21 9 (.int .i32 r)).run Tryd.prog W = .ok (.string (Utf8.encode r)) W := fun W => run_convert_int_string (P := Tryd.prog) W _ _ _ _ (by kernel_rfl) (by kernel_rfl)
    generalize Utf8.encode r = E at *
    obtain ⟨x, hx1⟩ : ∃ x, s[k]'hks = x := ⟨_, rfl⟩
    obtain ⟨y, hy1⟩ : ∃ y, E[k]'hk1 = y := ⟨_, rfl⟩
    rw [hx1] at hxy hx; rw [hy1] at hxy hyl
    have HY := Lib.hid hyl
    have hxyb : (((x.toNat : Int)) != (y.toNat : Int)) = true := by simp; omega
    have hkk1 : (k : Int) < (s.size : Int) := by omega
    have hkl : (k : Int) + 1 ≤ (s.size : Int) := by omega
    go_enter Tryd.func102, Tryd.ntmps102
    go_wp2_with fail
    refine hV.mono ?_
    rintro e w' ⟨rfl, rfl⟩
    go_wp2_with fail
    go_step3
    go_wp2_with fail
    refine wp_loop_rounds 1 ?_
    rw [rounds_succ]
    go_wp2_with fail
    go_step3
    go_wp2_with fail
    go_region
    all_goals
      go_wp2_with fail
      refine region_kept (World.drew w').heap.size (by kernel_rfl) (by kernel_rfl) ?_
      repeat (go_big_quiet_step (fail))
      go_big_quiet_step ((go_at_call 125; exact kept_same _ (HIB.out y _ HY.out)))
      repeat (go_big_quiet_step (fail))
      refine wpQuiet_nil ?_
      intro w2 hb2
      have HB : Hid (Below w'.heap.size w' w2) := Lib.hid ((Below.refl _ _).drew.trans (hb2.mono (Nat.le_refl _)))
      clear hb2
      go_wp2_with fail
      rw [Exit.noGoto_ret]
      simp only [go_sem]
      go_ret
      exact ⟨rfl, HB.out⟩
end Go.Proofs.YtebbgdihifihnaaDoor.P
