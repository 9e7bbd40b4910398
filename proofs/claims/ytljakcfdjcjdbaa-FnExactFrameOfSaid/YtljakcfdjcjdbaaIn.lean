/-
  The contracts of spec.l1In, spec.l1All, spec.l1Least: each answers what the plain function here says, at every argument, and leaves the world as it is.
-/
import Derived.Test.YtljakcfdjcjdbaaBase
namespace Go.Proofs.Ytljakcfdjcjdbaa
open Go.RowKit
set_option linter.unusedVariables false

def inB (lo hi a : Int) : Bool := decide (lo ≤ a) && decide (a ≤ hi)
theorem l1In_any (a b c : Int) (w : World) :
    Calls Try.prog 61 #[.int .i64 a, .int .i64 b, .int .i64 c] w fun e w' => e = .returned (.bool (inB b c a)) ∧ w = w' := by
  by_cases h1 : b ≤ a <;> by_cases h2 : a ≤ c <;>
  · go_enter Try.func61, Try.ntmps61
    go_wp2
    go_ret
    exact ⟨by simp [inB, h1, h2], rfl⟩

def allB (lo hi : Int) (l : List Int) : Bool := l.all (inB lo hi)
theorem allB_snoc (lo hi : Int) (l : List Int) (a : Int) : allB lo hi (l ++ [a]) = (allB lo hi l && inB lo hi a) := by simp [allB]
theorem allB_no {lo hi : Int} {l : List Int} {k : Nat} (h : k < l.length) (hf : inB lo hi l[k] = false) : allB lo hi l = false := by
  unfold allB
  rw [List.all_eq_false]
  exact ⟨l[k], List.getElem_mem h, by simp [hf]⟩

theorem l1All_any (l : List Int) (A : Option Addr) (c : Nat) (lo hi : Int) (w : World) (hf : IntsIn w A l) (hn : l.length ≤ maxLen) :
    Calls Try.prog 63 #[.slice A l.length c, .int .i64 lo, .int .i64 hi] w fun e w' => e = .returned (.bool (allB lo hi l)) ∧ w = w' := by
  unfold maxLen at hn
  have HF := Lib.hid hf; clear hf
  go_enter Try.func63, Try.ntmps63
  go_wp2
  go_loop [11] (fun i => ∃ (k : Nat), k ≤ l.length ∧ i = .int .i64 k ∧ allB lo hi (l.take k) = true) (fun i => l.length - (intOf i).toNat)
  case atStart => exact ⟨0, Nat.zero_le _, rfl, rfl⟩
  case round =>
    obtain ⟨k, hk, rfl, hs⟩ := hrel
    have HS := Lib.hid hs; clear hs
    by_cases hlt : k < l.length
    · obtain ⟨b, off, rfl, hbl, hc⟩ := HF.out (by omega)
      have hc0 := hc k hlt
      clear hc
      have hst : allB lo hi (l.take (k + 1)) = inB lo hi l[k] := by rw [List.take_succ_eq_append_getElem hlt, allB_snoc, HS.out]; rfl
      have hno := allB_no (lo := lo) (hi := hi) hlt
      have HST := Lib.hid hst; have HNO := Lib.hid hno
      clear hst hno
      go_wp2_with fail
      refine (l1In_any _ _ _ _).mono ?_
      rintro e w' ⟨rfl, rfl⟩
      cases hin : inB lo hi l[k]
      · have H := Lib.hid hin; clear hin
        go_wp2
        go_ret
        exact ⟨ret_bool (HNO.out H.out).symm, rfl⟩
      · have H := Lib.hid hin; clear hin
        go_wp2
        go_round
        case rel => exact ⟨k + 1, by omega, by go_num, by rw [HST.out, H.out]⟩
        case measure => simp [intOf]; omega
    · obtain rfl : k = l.length := by omega
      go_wp2
      go_ret
      exact ⟨ret_bool (by have e := HS.out; rw [List.take_length] at e; exact e.symm), rfl⟩

theorem l1Least_any (a b : Int) (w : World) :
    Calls Try.prog 73 #[.int .i64 a, .int .i64 b] w fun e w' => e = .returned (.int .i64 (if a < b then a else b)) ∧ w = w' := by
  by_cases h : a < b
  · go_enter Try.func73, Try.ntmps73
    go_wp2
    go_ret
    exact ⟨rfl, rfl⟩
  · go_enter Try.func73, Try.ntmps73
    go_wp2
    go_ret
    exact ⟨rfl, rfl⟩
end Go.Proofs.Ytljakcfdjcjdbaa
