/-
  Trials, and the contracts of the small functions of stage 8, in spec and in impl: each answers what the plain words here say and leaves the world as it is.
-/
import Derived.Test.YtbepgjknjopikaaIn
import Derived.Test.YtbepgjknjopikaaTail
import Derived.IntWalk
namespace Go.Proofs.Ytbepgjknjopikaa
open Go.RowKit
set_option linter.unusedVariables false

theorem inB_iff {a b c : Int} : inB a b c = true ↔ a ≤ c ∧ c ≤ b := by simp [inB]
theorem inB_no {a b c : Int} : inB a b c = false ↔ ¬ (a ≤ c ∧ c ≤ b) := by rw [← Bool.not_eq_true, inB_iff]
theorem allB_iff {a b : Int} {l : List Int} : allB a b l = true ↔ ∀ j (h : j < l.length), a ≤ l[j] ∧ l[j] ≤ b := by
  unfold allB
  rw [List.all_eq_true]
  constructor
  · intro h j hj; exact inB_iff.1 (h _ (List.getElem_mem hj))
  · intro h x hx
    obtain ⟨j, hj, rfl⟩ := List.mem_iff_getElem.1 hx
    exact inB_iff.2 (h j hj)
/-- A trial. -/
def gaB (l : List Int) : Bool := inB 1 40 (l.length : Int) && allB (-500) 500 l
structure GoodT (l : List Int) : Prop where
  one : 1 ≤ l.length
  most : l.length ≤ 40
  all : ∀ j (h : j < l.length), -500 ≤ l[j] ∧ l[j] ≤ 500
theorem gaB_iff {l : List Int} : gaB l = true ↔ GoodT l := by
  unfold gaB
  rw [Bool.and_eq_true, inB_iff, allB_iff]
  exact ⟨fun h => ⟨by omega, by omega, h.2⟩, fun h => ⟨⟨by have := h.one; omega, by have := h.most; omega⟩, h.all⟩⟩
theorem GoodT.mem {l : List Int} (h : GoodT l) : ∀ x ∈ l, -500 ≤ x ∧ x ≤ 500 := fun x hx => by
  obtain ⟨j, hj, rfl⟩ := List.mem_iff_getElem.1 hx
  exact h.all j hj
def absI (x : Int) : Int := (x.natAbs : Int)
theorem ret_ib {a b : Int} {x y : Bool} (h1 : a = b) (h2 : x = y) : Ending.returned (.tuple #[.int .i64 a, .bool x]) = .returned (.tuple #[.int .i64 b, .bool y]) := by rw [h1, h2]
theorem ret_iib {a a' b b' : Int} {c c' : Bool} (h1 : a = a') (h2 : b = b') (h3 : c = c') : Ending.returned (.tuple #[.int .i64 a, .int .i64 b, .bool c]) = .returned (.tuple #[.int .i64 a', .int .i64 b', .bool c']) := by rw [h1, h2, h3]

theorem gaGood_any (l : List Int) (A : Option Addr) (c : Nat) (w : World) (hf : IntsIn w A l) (hn : l.length ≤ 1048576) :
    Calls Try.prog 46 #[.slice A l.length c] w fun e w' => e = .returned (.bool (gaB l)) ∧ w = w' := by
  have HF := Lib.hid hf; clear hf
  go_enter Try.func46, Try.ntmps46
  go_wp2_with fail
  refine (l1In_any _ _ _ _).mono ?_
  rintro e w' ⟨rfl, rfl⟩
  cases hin : inB 1 40 (l.length : Int)
  · have H : Hid (gaB l = false) := Lib.hid (by unfold gaB; rw [hin]; rfl)
    clear hin
    go_wp2
    go_ret
    exact ⟨ret_bool H.out.symm, rfl⟩
  · have H : Hid (gaB l = allB (-500) 500 l) := Lib.hid (by unfold gaB; rw [hin]; rfl)
    clear hin
    go_wp2_with fail
    refine (l1All_any l A c _ _ _ HF.out (by unfold maxLen; omega)).mono ?_
    rintro e w' ⟨rfl, rfl⟩
    generalize allB (-500) 500 l = q at *
    go_wp2
    go_ret
    exact ⟨ret_bool H.out.symm, rfl⟩
theorem specIsTrial_any (l : List Int) (A : Option Addr) (c : Nat) (w : World) (hf : IntsIn w A l) (hn : l.length ≤ 1048576) :
    Calls Try.prog 16 #[.slice A l.length c] w fun e w' => e = .returned (.bool (gaB l)) ∧ Below w.heap.size w w' := by
  have HF := Lib.hid hf; clear hf
  go_enter Try.func16, Try.ntmps16
  go_wp2_with fail
  refine (gaGood_any l A c _ HF.out hn).mono ?_
  rintro e w' ⟨rfl, rfl⟩
  go_wp2
  go_ret
  exact ⟨rfl, Below.refl _ _⟩
theorem isOff_any (a : Int) (w : World) : Calls Try.prog 47 #[.int .i64 a] w fun e w' => e = .returned (.bool (inB (-500) 500 a)) ∧ w = w' := by
  by_cases h1 : (-500 : Int) ≤ a <;> by_cases h2 : a ≤ 500 <;>
  · go_enter Try.func47, Try.ntmps47
    go_wp2
    go_ret
    exact ⟨by simp [inB, h1, h2], rfl⟩
theorem isOffTolerance_any (a : Int) (w : World) : Calls Try.prog 58 #[.int .i64 a] w fun e w' => e = .returned (.bool (inB (0) 500 a)) ∧ w = w' := by
  by_cases h1 : (0 : Int) ≤ a <;> by_cases h2 : a ≤ 500 <;>
  · go_enter Try.func58, Try.ntmps58
    go_wp2
    go_ret
    exact ⟨by simp [inB, h1, h2], rfl⟩
theorem isAllowedNumber_any (a : Int) (w : World) : Calls Try.prog 61 #[.int .i64 a] w fun e w' => e = .returned (.bool (inB (0) 40 a)) ∧ w = w' := by
  by_cases h1 : (0 : Int) ≤ a <;> by_cases h2 : a ≤ 40 <;>
  · go_enter Try.func61, Try.ntmps61
    go_wp2
    go_ret
    exact ⟨by simp [inB, h1, h2], rfl⟩
theorem gaTolerance_any (a : Int) (w : World) : Calls Try.prog 56 #[.int .i64 a] w fun e w' => e = .returned (.bool (inB (0) 500 a)) ∧ w = w' := by
  go_enter Try.func56, Try.ntmps56
  go_wp2_with fail
  refine (l1In_any _ _ _ _).mono ?_
  rintro e w' ⟨rfl, rfl⟩
  go_wp2
  go_ret
  exact ⟨rfl, rfl⟩
theorem gaAim_any (a : Int) (w : World) : Calls Try.prog 66 #[.int .i64 a] w fun e w' => e = .returned (.bool (inB (-500) 500 a)) ∧ w = w' := by
  go_enter Try.func66, Try.ntmps66
  go_wp2_with fail
  refine (l1In_any _ _ _ _).mono ?_
  rintro e w' ⟨rfl, rfl⟩
  go_wp2
  go_ret
  exact ⟨rfl, rfl⟩
theorem l1Most_any (a b : Int) (w : World) :
    Calls Try.prog 71 #[.int .i64 a, .int .i64 b] w fun e w' => e = .returned (.int .i64 (if b < a then a else b)) ∧ w = w' := by
  by_cases h : b < a
  · go_enter Try.func71, Try.ntmps71
    go_wp2
    go_ret
    exact ⟨rfl, rfl⟩
  · go_enter Try.func71, Try.ntmps71
    go_wp2
    go_ret
    exact ⟨rfl, rfl⟩
theorem l1Abs_any (a : Int) (w : World) (h1 : -9000000000 ≤ a) (h2 : a ≤ 9000000000) :
    Calls Try.prog 48 #[.int .i64 a] w fun e w' => e = .returned (.int .i64 (absI a)) ∧ w = w' := by
  go_enter Try.func48, Try.ntmps48
  go_wp2_with fail
  refine (l1Most_any _ _ _).mono ?_
  rintro e w' ⟨rfl, rfl⟩
  rw [show (if -a < a then a else -a) = absI a from by unfold absI; split <;> omega]
  go_wp2
  go_ret
  exact ⟨rfl, rfl⟩
theorem distance0_any (a : Int) (w : World) (h1 : -9000000000 ≤ a) (h2 : a ≤ 9000000000) :
    Calls Try.prog 51 #[.int .i64 a, .int .i64 0] w fun e w' => e = .returned (.int .i64 (absI a)) ∧ w = w' := by
  go_enter Try.func51, Try.ntmps51
  go_wp2
  go_ret
  exact ⟨ret_int (by unfold absI; omega), rfl⟩
def outB (a m : Int) : Bool := decide (m < absI a)
theorem isOutside_any (a m : Int) (w : World) (h1 : -9000000000 ≤ a) (h2 : a ≤ 9000000000) :
    Calls Try.prog 59 #[.int .i64 a, .int .i64 m] w fun e w' => e = .returned (.bool (outB a m)) ∧ w = w' := by
  go_enter Try.func59, Try.ntmps59
  go_wp2_with fail
  refine (distance0_any a _ h1 h2).mono ?_
  rintro e w' ⟨rfl, rfl⟩
  have H : Hid (outB a m = decide (m < absI a)) := Lib.hid rfl
  generalize absI a = q at *
  go_wp2
  go_ret
  exact ⟨ret_bool (by rw [H.out]), rfl⟩
def sgn (x : Int) : Int := if 0 < x then 1 else if x < 0 then -1 else 0
theorem l1Sign_any (x : Int) (w : World) : Calls Try.prog 64 #[.int .i64 x] w fun e w' => e = .returned (.int .i64 (sgn x)) ∧ w = w' := by
  have HE : Hid (sgn x = if 0 < x then 1 else if x < 0 then -1 else 0) := Lib.hid rfl
  rcases (by omega : 0 < x ∨ (¬ 0 < x ∧ x < 0) ∨ (¬ 0 < x ∧ ¬ x < 0)) with h1 | ⟨h1, h2⟩ | ⟨h1, h2⟩
  all_goals
    go_enter Try.func64, Try.ntmps64
    go_wp2
    go_ret
  · exact ⟨ret_int (by rw [HE.out, if_pos h1]), rfl⟩
  · exact ⟨ret_int (by rw [HE.out, if_neg (by omega), if_pos h2]), rfl⟩
  · exact ⟨ret_int (by rw [HE.out, if_neg (by omega), if_neg (by omega)]), rfl⟩
theorem isNaN_any (x : Int) (w : World) : Calls Try.prog 78 #[.int .i64 x] w fun e w' => e = .returned (.bool false) ∧ w = w' := by
  have h : (x != x) = false := by simp
  go_enter Try.func78, Try.ntmps78
  go_wp2
  go_ret
  exact ⟨rfl, rfl⟩
theorem compare_any (x y : Int) (w : World) : Calls Try.prog 74 #[.int .i64 x, .int .i64 y] w fun e w' => e = .returned (.int .i64 (sgn (x - y))) ∧ w = w' := by
  have HE : Hid (sgn (x - y) = if 0 < x - y then 1 else if x - y < 0 then -1 else 0) := Lib.hid rfl
  rcases (by omega : x < y ∨ (¬ x < y ∧ y < x) ∨ (¬ x < y ∧ ¬ y < x)) with h1 | ⟨h1, h2⟩ | ⟨h1, h2⟩
  all_goals
    go_enter Try.func74, Try.ntmps74
    go_wp2_with (go_at_call 78; refine (isNaN_any _ _).mono ?_; rintro e w' ⟨rfl, rfl⟩)
    go_ret
  · exact ⟨ret_int (by rw [HE.out, if_neg (by omega), if_pos (by omega)]), rfl⟩
  · exact ⟨ret_int (by rw [HE.out, if_pos (by omega)]), rfl⟩
  · exact ⟨ret_int (by rw [HE.out, if_neg (by omega), if_neg (by omega)]), rfl⟩
theorem implIsTrial_any (l : List Int) (A : Option Addr) (c : Nat) (w : World) (hf : IntsIn w A l) (hn : l.length ≤ 1048576) :
    Calls Try.prog 18 #[.slice A l.length c] w fun e w' => e = .returned (.bool (gaB l)) ∧ w = w' := by
  have HF := Lib.hid hf; clear hf
  by_cases h1 : l.length < 1
  · have H : Hid (gaB l = false) := Lib.hid (by unfold gaB; rw [inB_no.2 (by omega)]; rfl)
    have h2 : (l.length : Int) < 1 := by omega
    go_enter Try.func18, Try.ntmps18
    go_wp2
    go_ret
    exact ⟨ret_bool H.out.symm, rfl⟩
  by_cases h2 : 40 < l.length
  · have H : Hid (gaB l = false) := Lib.hid (by unfold gaB; rw [inB_no.2 (by omega)]; rfl)
    go_enter Try.func18, Try.ntmps18
    go_wp2
    go_ret
    exact ⟨ret_bool H.out.symm, rfl⟩
  have HA : Hid (gaB l = allB (-500) 500 l) := Lib.hid (by unfold gaB; rw [inB_iff.2 (by omega)]; rfl)
  go_enter Try.func18, Try.ntmps18
  go_wp2
  go_loop [15] (fun i => ∃ (k : Nat), k ≤ l.length ∧ i = .int .i64 k ∧ allB (-500) 500 (l.take k) = true) (fun i => l.length - (intOf i).toNat)
  case atStart => exact ⟨0, Nat.zero_le _, rfl, rfl⟩
  case round =>
    obtain ⟨k, hk, rfl, hs⟩ := hrel
    have HS := Lib.hid hs; clear hs
    by_cases hlt : k < l.length
    · obtain ⟨b, off, rfl, hbl, hc⟩ := HF.out (by omega)
      have hc0 := hc k hlt
      clear hc
      have hst : allB (-500) 500 (l.take (k + 1)) = inB (-500) 500 l[k] := by rw [List.take_succ_eq_append_getElem hlt, allB_snoc, HS.out]; rfl
      have hno := allB_no (lo := -500) (hi := 500) hlt
      have HST := Lib.hid hst; have HNO := Lib.hid hno
      clear hst hno
      generalize l[k] = x at *
      go_wp2_with fail
      refine (isOff_any _ _).mono ?_
      rintro e w' ⟨rfl, rfl⟩
      cases hin : inB (-500) 500 x
      · have H := Lib.hid hin; clear hin
        go_wp2
        go_ret
        exact ⟨ret_bool (by rw [HA.out, HNO.out H.out]), rfl⟩
      · have H := Lib.hid hin; clear hin
        go_wp2
        go_round
        case rel => exact ⟨k + 1, by omega, by go_num, by rw [HST.out, H.out]⟩
        case measure => simp [intOf]; omega
    · obtain rfl : k = l.length := by omega
      go_wp2
      go_ret
      exact ⟨ret_bool (by have e := HS.out; rw [List.take_length] at e; rw [HA.out, e]), rfl⟩
end Go.Proofs.Ytbepgjknjopikaa
