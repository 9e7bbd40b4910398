/-
  The contracts of spec.tyLetters and spec.l1In: each returns what the plain function here says, at every argument, and leaves the world as it is.
-/
import Derived.Test.YtcbhhbcfnaekpaaDoorProg
import Derived.WalkKit
import Derived.Lib.Hide
namespace Go.Proofs.YtcbhhbcfnaekpaaDoor
open Go.RowKit
set_option linter.unusedVariables false

def isLet (c : UInt8) : Bool := 97 ≤ c && c ≤ 122
def lets (l : List UInt8) : Bool := l.all isLet

theorem in_any (a b c : Int) (w : World) :
    Calls Tryd.prog 61 #[.int .i64 a, .int .i64 b, .int .i64 c] w fun e w' => e = .returned (.bool (decide (b ≤ a) && decide (a ≤ c))) ∧ w = w' := by
  by_cases h1 : b ≤ a <;> by_cases h2 : a ≤ c <;>
  · go_enter Tryd.func61, Tryd.ntmps61
    go_wp2
    go_ret
    exact ⟨by simp [h1, h2], rfl⟩

theorem take_snoc (s : ByteArray) (k : Nat) (h : k < s.size) : s.data.toList.take (k + 1) = s.data.toList.take k ++ [s[k]] := by
  rw [List.take_succ_eq_append_getElem (by simpa using h)]; rfl
theorem lets_snoc (l : List UInt8) (c : UInt8) : lets (l ++ [c]) = (lets l && isLet c) := by simp [lets]
theorem isLet_int (c : UInt8) : isLet c = (decide (97 ≤ (c.toNat : Int)) && decide ((c.toNat : Int) ≤ 122)) := by
  unfold isLet
  have e1 : (97 : UInt8) ≤ c ↔ 97 ≤ (c.toNat : Int) := by rw [UInt8.le_iff_toNat_le]; simp; omega
  have e2 : c ≤ (122 : UInt8) ↔ (c.toNat : Int) ≤ 122 := by rw [UInt8.le_iff_toNat_le]; simp; omega
  simp [e1, e2]
theorem lets_false_of (s : ByteArray) (k : Nat) (h : k < s.size) (hf : isLet s[k] = false) : lets s.data.toList = false := by
  unfold lets
  rw [List.all_eq_false]
  refine ⟨s[k], ?_, by simp [hf]⟩
  exact List.getElem_mem (l := s.data.toList) (by simpa using h)
theorem ret_bool {a b : Bool} (h : a = b) : Ending.returned (.bool a) = .returned (.bool b) := by rw [h]

def tyLettersF (l : List UInt8) (m : Int) : Bool := lets l && (decide (1 ≤ l.length) && decide ((l.length : Int) ≤ m))

theorem tyLetters_any (s : ByteArray) (m : Int) (w : World) (hs : s.size ≤ maxLen) :
    Calls Tryd.prog 94 #[.string s, .int .i64 m] w fun e w' => e = .returned (.bool (tyLettersF s.data.toList m)) ∧ w = w' := by
  unfold maxLen at hs
  go_enter Tryd.func94, Tryd.ntmps94
  go_wp2
  go_loop [5] (fun i => ∃ k : Nat, k ≤ s.size ∧ i = .int .i64 k ∧ lets (s.data.toList.take k) = true) (fun i => s.size - (intOf i).toNat)
  case atStart => exact ⟨0, Nat.zero_le _, rfl, rfl⟩
  case round =>
    obtain ⟨k, hk, rfl, hl⟩ := hrel
    have HL := Lib.hid hl; clear hl
    by_cases hlt : k < s.size
    · by_cases h1 : 97 ≤ (s[k].toNat : Int)
      · by_cases h2 : (s[k].toNat : Int) ≤ 122
        · go_wp2
          go_round
          case rel => exact ⟨k + 1, by omega, by go_num, by rw [take_snoc s k hlt, lets_snoc, HL.out, isLet_int]; simp [h1, h2]⟩
          case measure => simp [intOf]; omega
        · go_wp2
          go_ret
          exact ⟨ret_bool (by unfold tyLettersF; rw [lets_false_of s k hlt (by rw [isLet_int]; simp; omega)]; rfl), rfl⟩
      · go_wp2
        go_ret
        exact ⟨ret_bool (by unfold tyLettersF; rw [lets_false_of s k hlt (by rw [isLet_int]; simp; omega)]; rfl), rfl⟩
    · obtain rfl : k = s.size := by omega
      go_wp2_with (go_at_call 61; refine (in_any _ _ _ _).mono ?_; rintro e w' ⟨rfl, rfl⟩)
      go_ret
      exact ⟨ret_bool (by
        have e := HL.out
        rw [List.take_of_length_le (by simp)] at e
        unfold tyLettersF; rw [e, ← show decide ((1:Int) ≤ s.size) = decide (1 ≤ s.data.toList.length) from decide_eq_decide.2 (by rw [Array.length_toList]; show _ ↔ 1 ≤ s.size; omega)]; simp), rfl⟩
end Go.Proofs.YtcbhhbcfnaekpaaDoor
