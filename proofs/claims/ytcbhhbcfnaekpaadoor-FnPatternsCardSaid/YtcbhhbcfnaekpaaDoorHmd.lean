import Derived.Test.YtcbhhbcfnaekpaaDoorProg
import Derived.WalkKit
import Derived.Lib.Hide
import Derived.WalkLawsBesides
import Derived.StillTailTactics
import Derived.Sort.Walk0
/-
  The contracts of spec.tyLetters and spec.l1In: each returns what the plain function here says, at every argument, and leaves the world as it is.
-/
namespace Go.Proofs.YtcbhhbcfnaekpaaDoor
open Go.RowKit
set_option linter.unusedVariables false

def isLet (c : UInt8) : Bool := 97 ≤ c && c ≤ 122
def lets (l : List UInt8) : Bool := l.all isLet

theorem in_any (a b c : Int) (w : World) :
    Calls Tryd.prog 61 #[.int .i64 a, .int .i64 b, .int .i64 c] w fun e w' => e = .returned (.bool (decide (b ≤ a) && decide (a ≤ c))) ∧ w = w' := by
  by_cases h1 : b ≤ a <;> by_cases h2 : a ≤ c <;>
  · go_enter Tryd.func61, Tryd.ntmps61
    go_wp2
    go_ret
    exact ⟨by simp [h1, h2], rfl⟩

theorem take_snoc (s : ByteArray) (k : Nat) (h : k < s.size) : s.data.toList.take (k + 1) = s.data.toList.take k ++ [s[k]] := by
  rw [List.take_succ_eq_append_getElem (by simpa using h)]; rfl
theorem lets_snoc (l : List UInt8) (c : UInt8) : lets (l ++ [c]) = (lets l && isLet c) := by simp [lets]
theorem isLet_int (c : UInt8) : isLet c = (decide (97 ≤ (c.toNat : Int)) && decide ((c.toNat : Int) ≤ 122)) := by
  unfold isLet
  have e1 : (97 : UInt8) ≤ c ↔ 97 ≤ (c.toNat : Int) := by rw [UInt8.le_iff_toNat_le]; simp; omega
  have e2 : c ≤ (122 : UInt8) ↔ (c.toNat : Int) ≤ 122 := by rw [UInt8.le_iff_toNat_le]; simp; omega
  simp [e1, e2]
theorem lets_false_of (s : ByteArray) (k : Nat) (h : k < s.size) (hf : isLet s[k] = false) : lets s.data.toList = false := by
  unfold lets
  rw [List.all_eq_false]
  refine ⟨s[k], ?_, by simp [hf]⟩
  exact List.getElem_mem (l := s.data.toList) (by simpa using h)
theorem ret_bool {a b : Bool} (h : a = b) : Ending.returned (.bool a) = .returned (.bool b) := by rw [h]

def tyLettersF (l : List UInt8) (m : Int) : Bool := lets l && (decide (1 ≤ l.length) && decide ((l.length : Int) ≤ m))

theorem tyLetters_any (s : ByteArray) (m : Int) (w : World) (hs : s.size ≤ maxLen) :
    Calls Tryd.prog 94 #[.string s, .int .i64 m] w fun e w' => e = .returned (.bool (tyLettersF s.data.toList m)) ∧ w = w' := by
  unfold maxLen at hs
  go_enter Tryd.func94, Tryd.ntmps94
  go_wp2
  go_loop [5] (fun i => ∃ k : Nat, k ≤ s.size ∧ i = .int .i64 k ∧ lets (s.data.toList.take k) = true) (fun i => s.size - (intOf i).toNat)
  case atStart => exact ⟨0, Nat.zero_le _, rfl, rfl⟩
  case round =>
    obtain ⟨k, hk, rfl, hl⟩ := hrel
    have HL := Lib.hid hl; clear hl
    by_cases hlt : k < s.size
    · by_cases h1 : 97 ≤ (s[k].toNat : Int)
      · by_cases h2 : (s[k].toNat : Int) ≤ 122
        · go_wp2
          go_round
          case rel => exact ⟨k + 1, by omega, by go_num, by rw [take_snoc s k hlt, lets_snoc, HL.out, isLet_int]; simp [h1, h2]⟩
          case measure => simp [intOf]; omega
        · go_wp2
          go_ret
          exact ⟨ret_bool (by unfold tyLettersF; rw [lets_false_of s k hlt (by rw [isLet_int]; simp; omega)]; rfl), rfl⟩
      · go_wp2
        go_ret
        exact ⟨ret_bool (by unfold tyLettersF; rw [lets_false_of s k hlt (by rw [isLet_int]; simp; omega)]; rfl), rfl⟩
    · obtain rfl : k = s.size := by omega
      go_wp2_with (go_at_call 61; refine (in_any _ _ _ _).mono ?_; rintro e w' ⟨rfl, rfl⟩)
      go_ret
      exact ⟨ret_bool (by
        have e := HL.out
        rw [List.take_of_length_le (by simp)] at e
        unfold tyLettersF; rw [e, ← show decide ((1:Int) ≤ s.size) = decide (1 ≤ s.data.toList.length) from decide_eq_decide.2 (by rw [Array.length_toList]; show _ ↔ 1 ≤ s.size; omega)]; simp), rfl⟩
end Go.Proofs.YtcbhhbcfnaekpaaDoor

/-
  The contracts of the functions on one sort by value (spec.tySort, spec.IsSort, impl.areLetters, impl.isCode, impl.isWord, impl.IsSort, laws.szSort, laws.toSort): each returns what the plain function here says, at every argument, and changes nothing that was there.
-/
namespace Go.Proofs.YtcbhhbcfnaekpaaDoor
open Go.RowKit
set_option linter.unusedVariables false

def tySortF (c : ByteArray) (n : Int) : Bool := tyLettersF c.data.toList 3 && (decide (1 ≤ n) && decide (n ≤ 54))

theorem areLetters_any (s : ByteArray) (w : World) (hs : s.size ≤ maxLen) :
    Calls Tryd.prog 91 #[.string s] w fun e w' => e = .returned (.bool (lets s.data.toList)) ∧ Below w.heap.size w w' := by
  unfold maxLen at hs
  go_enter Tryd.func91, Tryd.ntmps91
  go_wp2
  go_loopw [] (fun w' => ∃ (pos : Nat), w' = w.iter s pos ∧ pos ≤ s.size ∧ lets (s.data.toList.take pos) = true) (fun w' => s.size - w'.iterPos w.heap.size)
  case atStart => exact ⟨0, rfl, Nat.zero_le _, rfl⟩
  case round =>
    obtain ⟨pos, rfl, hp, hl⟩ := hrel
    have HL := Lib.hid hl; clear hl
    by_cases hlt : pos < s.size
    · by_cases ha : (s[pos]'hlt).toNat < 128
      · have hnx : ∀ ty, (Instr.next (.pointer (some ⟨w.heap.size, 0, none⟩)) true ty).run Tryd.prog (w.iter s pos) = _ := fun ty => run_next_ascii w s pos ty hlt ha
        by_cases h1 : 97 ≤ (s[pos].toNat : Int)
        · by_cases h2 : (s[pos].toNat : Int) ≤ 122
          · go_wp2
            go_roundw
            case rel => exact ⟨pos + 1, rfl, by omega, by rw [take_snoc s pos hlt, lets_snoc, HL.out, isLet_int]; simp [h1, h2]⟩
            case measure => simp; omega
          · go_wp2
            go_ret
            exact ⟨ret_bool (by rw [lets_false_of s pos hlt (by rw [isLet_int]; simp; omega)]), (Below.refl _ _).alloc (Nat.le_refl _) _⟩
        · go_wp2
          go_ret
          exact ⟨ret_bool (by rw [lets_false_of s pos hlt (by rw [isLet_int]; simp; omega)]), (Below.refl _ _).alloc (Nat.le_refl _) _⟩
      · have hnx : ∀ ty, (Instr.next (.pointer (some ⟨w.heap.size, 0, none⟩)) true ty).run Tryd.prog (w.iter s pos) = _ := fun ty => run_next_any w s pos ty hlt
        have hh := (decode_high s pos hlt (by omega)).1
        have h1 : (97 : Int) ≤ ((Utf8.decode s pos).1 : Int) := by omega
        have h2 : (122 : Int) < ((Utf8.decode s pos).1 : Int) := by omega
        go_wp2
        go_ret
        exact ⟨ret_bool (by rw [lets_false_of s pos hlt (by rw [isLet_int]; simp; omega)]), (Below.refl _ _).alloc (Nat.le_refl _) _⟩
    · have hnx : ∀ ty, (Instr.next (.pointer (some ⟨w.heap.size, 0, none⟩)) true ty).run Tryd.prog (w.iter s pos) = _ := fun ty => run_next_end w s pos ty hlt
      obtain rfl : pos = s.size := by omega
      go_wp2
      go_ret
      exact ⟨ret_bool (by
        have e := HL.out
        rw [List.take_of_length_le (by simp)] at e
        rw [e]), (Below.refl _ _).alloc (Nat.le_refl _) _⟩

def isCodeF (l : List UInt8) (m : Nat) : Bool := (decide (1 ≤ (l.length : Int)) && decide ((l.length : Int) ≤ m)) && lets l

theorem isCodeF_eq (l : List UInt8) (m : Nat) : isCodeF l m = tyLettersF l m := by
  unfold isCodeF tyLettersF
  rw [show decide ((1:Int) ≤ l.length) = decide (1 ≤ l.length) from decide_eq_decide.2 (by omega)]
  exact Bool.and_comm _ _

theorem len_list (s : ByteArray) : s.data.toList.length = s.size := by rw [Array.length_toList]; rfl

end Go.Proofs.YtcbhhbcfnaekpaaDoor

/-
  The contracts of the functions on a slice of sorts that only read (laws.szSortS, laws.toSortS, laws.eqSortS, spec.tyFont, impl.IsFont): each returns what the plain function here says and changes nothing that was there.
-/
namespace Go.Proofs.YtcbhhbcfnaekpaaDoor
open Go.RowKit
set_option linter.unusedVariables false

/-- A slice of sorts at A reads as the list f; its block lies from lo on and below the heap's end. -/
def SortsIn (w : World) (lo : Nat) (A : Option Addr) (f : List (ByteArray × Int)) : Prop :=
  0 < f.length → ∃ b off, A = some ⟨b, off, none⟩ ∧ lo ≤ b ∧ b < w.heap.size ∧ ∀ k (h : k < f.length), w.cell? ⟨b, off + k * 2, none⟩ = some (.string f[k].1) ∧ w.cell? ⟨b, off + k * 2 + 1, none⟩ = some (.int .i64 f[k].2)
/-- Each Code is no longer than a string can be. -/
def CodesOk (f : List (ByteArray × Int)) : Prop := ∀ k (h : k < f.length), f[k].1.size ≤ maxLen

theorem SortsIn.below {w w' : World} {lo B : Nat} {A : Option Addr} {f : List (ByteArray × Int)} (h : SortsIn w lo A f) (hb : Below B w w') (hB : w.heap.size ≤ B) : SortsIn w' lo A f := by
  intro hn
  obtain ⟨b, off, rfl, h1, h2, h3⟩ := h hn
  refine ⟨b, off, rfl, h1, Nat.lt_of_lt_of_le h2 hb.size, fun k hk => ?_⟩
  rw [hb.cell (by show b < B; omega), hb.cell (by show b < B; omega)]
  exact h3 k hk

theorem ret_int {k : IntKind} {a b : Int} (h : a = b) : Ending.returned (.int k a) = .returned (.int k b) := by rw [h]
def szF : List (ByteArray × Int) → Int → Int
  | [], l => l
  | x :: r, l => if l < x.1.size then -1 else szF r (l - x.1.size)
def szSortSF (f : List (ByteArray × Int)) (l : Int) : Int := if l < f.length then -1 else szF f (l - f.length)
theorem szF_drop (f : List (ByteArray × Int)) (k : Nat) (h : k < f.length) (l : Int) : szF (f.drop k) l = if l < f[k].1.size then -1 else szF (f.drop (k + 1)) (l - f[k].1.size) := by
  rw [List.drop_eq_getElem_cons h]; rfl

theorem sz_len (f : List (ByteArray × Int)) (h : 0 ≤ szSortSF f 1048576) : f.length ≤ 1048576 := by
  unfold szSortSF at h
  split at h <;> omega

theorem str_inj {c d : ByteArray} (e : c.toList = d.toList) : c = d := by
  rw [ByteArray.toList_eq, ByteArray.toList_eq] at e
  exact ByteArray.ext (Array.ext' e)
theorem str_ne {c d : ByteArray} (h : ¬ c = d) : (!c.toList == d.toList) = true := by
  have : c.toList ≠ d.toList := fun e => h (str_inj e)
  rw [beq_eq_false_iff_ne.2 this]; rfl

end Go.Proofs.YtcbhhbcfnaekpaaDoor
