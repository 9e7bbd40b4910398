/-
  The contracts of the functions on one sort by value (spec.tySort, spec.IsSort, impl.areLetters, impl.isCode, impl.isWord, impl.IsSort, laws.szSort, laws.toSort): each returns what the plain function here says, at every argument, and changes nothing that was there.
-/
import Derived.Test.YtpbkeagpipipmaaLet
namespace Go.Proofs.Ytpbkeagpipipmaa.S1
open Go.RowKit
set_option linter.unusedVariables false

def tySortF (c : ByteArray) (n : Int) : Bool := tyLettersF c.data.toList 3 && (decide (1 ≤ n) && decide (n ≤ 54))

theorem tySort_any (c : ByteArray) (n : Int) (w : World) (hs : c.size ≤ maxLen) :
    Calls Try.prog 90 #[.agg #[.string c, .int .i64 n]] w fun e w' => e = .returned (.bool (tySortF c n)) ∧ Below w.heap.size w w' := by
  cases hl : tyLettersF c.data.toList 3
  · go_enter Try.func90, Try.ntmps90
    have HL := Lib.hid hl; clear hl
    go_wp2_with fail
    refine (tyLetters_any _ _ _ hs).mono ?_
    rintro e w' ⟨rfl, rfl⟩
    rw [HL.out]
    go_wp2
    go_ret
    exact ⟨by unfold tySortF; rw [HL.out]; rfl, (Below.refl _ _).alloc (Nat.le_refl _) _⟩
  · go_enter Try.func90, Try.ntmps90
    have HL := Lib.hid hl; clear hl
    go_wp2_with fail
    refine (tyLetters_any _ _ _ hs).mono ?_
    rintro e w' ⟨rfl, rfl⟩
    rw [HL.out]
    go_wp2_with (go_at_call 75; refine (in_any _ _ _ _).mono ?_; rintro e w' ⟨rfl, rfl⟩)
    go_ret
    exact ⟨by unfold tySortF; rw [HL.out]; rfl, (Below.refl _ _).alloc (Nat.le_refl _) _⟩

theorem areLetters_any (s : ByteArray) (w : World) (hs : s.size ≤ maxLen) :
    Calls Try.prog 100 #[.string s] w fun e w' => e = .returned (.bool (lets s.data.toList)) ∧ Below w.heap.size w w' := by
  unfold maxLen at hs
  go_enter Try.func100, Try.ntmps100
  go_wp2
  go_loopw [] (fun w' => ∃ (pos : Nat), w' = w.iter s pos ∧ pos ≤ s.size ∧ lets (s.data.toList.take pos) = true) (fun w' => s.size - w'.iterPos w.heap.size)
  case atStart => exact ⟨0, rfl, Nat.zero_le _, rfl⟩
  case round =>
    obtain ⟨pos, rfl, hp, hl⟩ := hrel
    have HL := Lib.hid hl; clear hl
    by_cases hlt : pos < s.size
    · by_cases ha : (s[pos]'hlt).toNat < 128
      · have hnx : ∀ ty, (Instr.next (.pointer (some ⟨w.heap.size, 0, none⟩)) true ty).run Try.prog (w.iter s pos) = _ := fun ty => run_next_ascii w s pos ty hlt ha
        by_cases h1 : 97 ≤ (s[pos].toNat : Int)
        · by_cases h2 : (s[pos].toNat : Int) ≤ 122
          · go_wp2
            go_roundw
            case rel => exact ⟨pos + 1, rfl, by omega, by rw [take_snoc s pos hlt, lets_snoc, HL.out, isLet_int]; simp [h1, h2]⟩
            case measure => simp; omega
          · go_wp2
            go_ret
            exact ⟨ret_bool (by rw [lets_false_of s pos hlt (by rw [isLet_int]; simp; omega)]), (Below.refl _ _).alloc (Nat.le_refl _) _⟩
        · go_wp2
          go_ret
          exact ⟨ret_bool (by rw [lets_false_of s pos hlt (by rw [isLet_int]; simp; omega)]), (Below.refl _ _).alloc (Nat.le_refl _) _⟩
      · have hnx : ∀ ty, (Instr.next (.pointer (some ⟨w.heap.size, 0, none⟩)) true ty).run Try.prog (w.iter s pos) = _ := fun ty => run_next_any w s pos ty hlt
        have hh := (decode_high s pos hlt (by omega)).1
        have h1 : (97 : Int) ≤ ((Utf8.decode s pos).1 : Int) := by omega
        have h2 : (122 : Int) < ((Utf8.decode s pos).1 : Int) := by omega
        go_wp2
        go_ret
        exact ⟨ret_bool (by rw [lets_false_of s pos hlt (by rw [isLet_int]; simp; omega)]), (Below.refl _ _).alloc (Nat.le_refl _) _⟩
    · have hnx : ∀ ty, (Instr.next (.pointer (some ⟨w.heap.size, 0, none⟩)) true ty).run Try.prog (w.iter s pos) = _ := fun ty => run_next_end w s pos ty hlt
      obtain rfl : pos = s.size := by omega
      go_wp2
      go_ret
      exact ⟨ret_bool (by
        have e := HL.out
        rw [List.take_of_length_le (by simp)] at e
        rw [e]), (Below.refl _ _).alloc (Nat.le_refl _) _⟩

def isCodeF (l : List UInt8) (m : Nat) : Bool := (decide (1 ≤ (l.length : Int)) && decide ((l.length : Int) ≤ m)) && lets l

theorem isCodeF_eq (l : List UInt8) (m : Nat) : isCodeF l m = tyLettersF l m := by
  unfold isCodeF tyLettersF
  rw [show decide ((1:Int) ≤ l.length) = decide (1 ≤ l.length) from decide_eq_decide.2 (by omega)]
  exact Bool.and_comm _ _

theorem len_list (s : ByteArray) : s.data.toList.length = s.size := by rw [Array.length_toList]; rfl

theorem isCode_any (s : ByteArray) (w : World) (hs : s.size ≤ maxLen) :
    Calls Try.prog 103 #[.string s] w fun e w' => e = .returned (.bool (tyLettersF s.data.toList 3)) ∧ Below w.heap.size w w' := by
  have H := isCodeF_eq s.data.toList 3
  unfold isCodeF at H
  rw [len_list] at H
  have HE := Lib.hid H; clear H
  by_cases h1 : 1 ≤ (s.size : Int)
  · by_cases h2 : (s.size : Int) ≤ 3
    · go_enter Try.func103, Try.ntmps103
      go_wp2_with fail
      refine (areLetters_any _ _ hs).mono ?_
      rintro e w' ⟨rfl, hb⟩
      go_wp2
      go_ret
      have d1 := decide_eq_true h1; have d2 : decide ((s.size : Int) ≤ ((3 : Nat) : Int)) = true := decide_eq_true h2
      exact ⟨ret_bool (by have e := HE.out; rw [d1, d2] at e; simpa using e), hb⟩
    · go_enter Try.func103, Try.ntmps103
      go_wp2
      go_ret
      have d1 := decide_eq_true h1; have d2 : decide ((s.size : Int) ≤ ((3 : Nat) : Int)) = false := decide_eq_false (by omega)
      exact ⟨ret_bool (by have e := HE.out; rw [d1, d2] at e; simpa using e), Below.refl _ _⟩
  · go_enter Try.func103, Try.ntmps103
    go_wp2
    go_ret
    have d1 : decide (1 ≤ (s.size : Int)) = false := decide_eq_false (by omega)
    exact ⟨ret_bool (by have e := HE.out; rw [d1] at e; simpa using e), Below.refl _ _⟩

theorem implIsSort_any (c : ByteArray) (n : Int) (w : World) (hs : c.size ≤ maxLen) :
    Calls Try.prog 99 #[.agg #[.string c, .int .i64 n]] w fun e w' => e = .returned (.bool (tySortF c n)) ∧ Below w.heap.size w w' := by
  have H : tySortF c n = (tyLettersF c.data.toList 3 && (decide (1 ≤ n) && decide (n ≤ 54))) := rfl
  have HE := Lib.hid H; clear H
  cases hl : tyLettersF c.data.toList 3
  · go_enter Try.func99, Try.ntmps99
    have HL := Lib.hid hl; clear hl
    go_wp2_with fail
    refine (isCode_any _ _ hs).mono ?_
    rintro e w' ⟨rfl, hb⟩
    rw [HL.out]
    go_wp2
    go_ret
    exact ⟨by rw [HE.out, HL.out]; rfl, ((Below.refl _ _).alloc (Nat.le_refl _) _).trans (hb.mono (by simp))⟩
  · go_enter Try.func99, Try.ntmps99
    have HL := Lib.hid hl; clear hl
    go_wp2_with fail
    refine (isCode_any _ _ hs).mono ?_
    rintro e w' ⟨rfl, hb⟩
    rw [HL.out]
    have hc : w'.cell? ⟨w.heap.size, 1, none⟩ = some (.int .i64 n) := by rw [hb.cell (by simp)]; simp
    rcases (by omega : (1 ≤ n ∧ n ≤ 54) ∨ n < 1 ∨ 54 < n) with ⟨h1, h2⟩ | h1 | h1
    · go_wp2
      go_ret
      exact ⟨by rw [HE.out, HL.out]; simp [h1, h2], ((Below.refl _ _).alloc (Nat.le_refl _) _).trans (hb.mono (by simp))⟩
    · go_wp2
      go_ret
      exact ⟨by rw [HE.out, HL.out]; simp; omega, ((Below.refl _ _).alloc (Nat.le_refl _) _).trans (hb.mono (by simp))⟩
    · have h2 : 1 ≤ n := by omega
      go_wp2
      go_ret
      exact ⟨by rw [HE.out, HL.out]; simp; omega, ((Below.refl _ _).alloc (Nat.le_refl _) _).trans (hb.mono (by simp))⟩

theorem szSort_any (c : ByteArray) (n l : Int) (w : World) (hs : c.size ≤ maxLen) (h1 : 0 ≤ l) (h2 : l ≤ 1048576) :
    Calls Try.prog 77 #[.agg #[.string c, .int .i64 n], .int .i64 l] w fun e w' => e = .returned (.int .i64 (if l < c.size then -1 else l - c.size)) ∧ Below w.heap.size w w' := by
  unfold maxLen at hs
  by_cases h : l < c.size
  · go_enter Try.func77, Try.ntmps77
    have h' : l - (c.size : Int) < 0 := by omega
    go_wp2
    go_ret
    exact ⟨by first | (simp; done) | simp [h], (Below.refl _ _).alloc (Nat.le_refl _) _⟩
  · go_enter Try.func77, Try.ntmps77
    have h' : ¬ l - (c.size : Int) < 0 := by omega
    go_wp2
    go_ret
    exact ⟨by first | (simp; done) | simp [h], (Below.refl _ _).alloc (Nat.le_refl _) _⟩

theorem toSort_any (c : ByteArray) (n : Int) (w : World) :
    Calls Try.prog 78 #[.agg #[.string c, .int .i64 n]] w fun e w' => e = .returned (.agg #[.string c, .int .i64 n]) ∧ Below w.heap.size w w' := by
  go_enter Try.func78, Try.ntmps78
  go_wp2
  refine bodyPost_ret (v := .agg #[.string c, .int .i64 n]) (by simp [results, Try.results78, go_sem]) rfl ⟨rfl, ?_⟩
  exact (((Below.refl _ _).alloc (Nat.le_refl _) _).alloc (by simp) _).alloc (by simp; omega) _
end Go.Proofs.Ytpbkeagpipipmaa.S1
