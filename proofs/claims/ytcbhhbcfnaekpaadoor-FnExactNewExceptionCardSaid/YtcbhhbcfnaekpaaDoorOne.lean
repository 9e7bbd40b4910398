/-
  The contracts of the functions on one sort by value (spec.tySort, spec.IsSort, impl.areLetters, impl.isCode, impl.isWord, impl.IsSort, laws.szSort, laws.toSort): each returns what the plain function here says, at every argument, and changes nothing that was there.
-/
import Derived.Test.YtcbhhbcfnaekpaaDoorLet
namespace Go.Proofs.YtcbhhbcfnaekpaaDoor
open Go.RowKit
set_option linter.unusedVariables false

def tySortF (c : ByteArray) (n : Int) : Bool := tyLettersF c.data.toList 3 && (decide (1 ≤ n) && decide (n ≤ 54))

theorem areLetters_any (s : ByteArray) (w : World) (hs : s.size ≤ maxLen) :
    Calls Tryd.prog 91 #[.string s] w fun e w' => e = .returned (.bool (lets s.data.toList)) ∧ Below w.heap.size w w' := by
  unfold maxLen at hs
  go_enter Tryd.func91, Tryd.ntmps91
  go_wp2
  go_loopw [] (fun w' => ∃ (pos : Nat), w' = w.iter s pos ∧ pos ≤ s.size ∧ lets (s.data.toList.take pos) = true) (fun w' => s.size - w'.iterPos w.heap.size)
  case atStart => exact ⟨0, rfl, Nat.zero_le _, rfl⟩
  case round =>
    obtain ⟨pos, rfl, hp, hl⟩ := hrel
    have HL := Lib.hid hl; clear hl
    by_cases hlt : pos < s.size
    · by_cases ha : (s[pos]'hlt).toNat < 128
      · have hnx : ∀ ty, (Instr.next (.pointer (some ⟨w.heap.size, 0, none⟩)) true ty).run Tryd.prog (w.iter s pos) = _ := fun ty => run_next_ascii w s pos ty hlt ha
        by_cases h1 : 97 ≤ (s[pos].toNat : Int)
        · by_cases h2 : (s[pos].toNat : Int) ≤ 122
          · go_wp2
            go_roundw
            case rel => exact ⟨pos + 1, rfl, by omega, by rw [take_snoc s pos hlt, lets_snoc, HL.out, isLet_int]; simp [h1, h2]⟩
            case measure => simp; omega
          · go_wp2
            go_ret
            exact ⟨ret_bool (by rw [lets_false_of s pos hlt (by rw [isLet_int]; simp; omega)]), (Below.refl _ _).alloc (Nat.le_refl _) _⟩
        · go_wp2
          go_ret
          exact ⟨ret_bool (by rw [lets_false_of s pos hlt (by rw [isLet_int]; simp; omega)]), (Below.refl _ _).alloc (Nat.le_refl _) _⟩
      · have hnx : ∀ ty, (Instr.next (.pointer (some ⟨w.heap.size, 0, none⟩)) true ty).run Tryd.prog (w.iter s pos) = _ := fun ty => run_next_any w s pos ty hlt
        have hh := (decode_high s pos hlt (by omega)).1
        have h1 : (97 : Int) ≤ ((Utf8.decode s pos).1 : Int) := by omega
        have h2 : (122 : Int) < ((Utf8.decode s pos).1 : Int) := by omega
        go_wp2
        go_ret
        exact ⟨ret_bool (by rw [lets_false_of s pos hlt (by rw [isLet_int]; simp; omega)]), (Below.refl _ _).alloc (Nat.le_refl _) _⟩
    · have hnx : ∀ ty, (Instr.next (.pointer (some ⟨w.heap.size, 0, none⟩)) true ty).run Tryd.prog (w.iter s pos) = _ := fun ty => run_next_end w s pos ty hlt
      obtain rfl : pos = s.size := by omega
      go_wp2
      go_ret
      exact ⟨ret_bool (by
        have e := HL.out
        rw [List.take_of_length_le (by simp)] at e
        rw [e]), (Below.refl _ _).alloc (Nat.le_refl _) _⟩

def isCodeF (l : List UInt8) (m : Nat) : Bool := (decide (1 ≤ (l.length : Int)) && decide ((l.length : Int) ≤ m)) && lets l

theorem isCodeF_eq (l : List UInt8) (m : Nat) : isCodeF l m = tyLettersF l m := by
  unfold isCodeF tyLettersF
  rw [show decide ((1:Int) ≤ l.length) = decide (1 ≤ l.length) from decide_eq_decide.2 (by omega)]
  exact Bool.and_comm _ _

theorem len_list (s : ByteArray) : s.data.toList.length = s.size := by rw [Array.length_toList]; rfl

end Go.Proofs.YtcbhhbcfnaekpaaDoor
