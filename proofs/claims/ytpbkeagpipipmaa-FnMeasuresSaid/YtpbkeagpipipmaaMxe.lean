import Derived.Test.YtpbkeagpipipmaaProg
import Derived.WalkKit
import Derived.Lib.Hide
import Derived.WalkLawsBesides
import Derived.StillTailTactics
import Derived.Sort.Walk0
/-
  The contracts of spec.tyLetters and spec.l1In: each returns what the plain function here says, at every argument, and leaves the world as it is.
-/
namespace Go.Proofs.Ytpbkeagpipipmaa.S1
open Go.RowKit
set_option linter.unusedVariables false

def isLet (c : UInt8) : Bool := 97 ≤ c && c ≤ 122
def lets (l : List UInt8) : Bool := l.all isLet

theorem in_any (a b c : Int) (w : World) :
    Calls Try.prog 75 #[.int .i64 a, .int .i64 b, .int .i64 c] w fun e w' => e = .returned (.bool (decide (b ≤ a) && decide (a ≤ c))) ∧ w = w' := by
  by_cases h1 : b ≤ a <;> by_cases h2 : a ≤ c <;>
  · go_enter Try.func75, Try.ntmps75
    go_wp2
    go_ret
    exact ⟨by simp [h1, h2], rfl⟩

theorem take_snoc (s : ByteArray) (k : Nat) (h : k < s.size) : s.data.toList.take (k + 1) = s.data.toList.take k ++ [s[k]] := by
  rw [List.take_succ_eq_append_getElem (by simpa using h)]; rfl
theorem lets_snoc (l : List UInt8) (c : UInt8) : lets (l ++ [c]) = (lets l && isLet c) := by simp [lets]
theorem isLet_int (c : UInt8) : isLet c = (decide (97 ≤ (c.toNat : Int)) && decide ((c.toNat : Int) ≤ 122)) := by
  unfold isLet
  have e1 : (97 : UInt8) ≤ c ↔ 97 ≤ (c.toNat : Int) := by rw [UInt8.le_iff_toNat_le]; simp; omega
  have e2 : c ≤ (122 : UInt8) ↔ (c.toNat : Int) ≤ 122 := by rw [UInt8.le_iff_toNat_le]; simp; omega
  simp [e1, e2]
theorem lets_false_of (s : ByteArray) (k : Nat) (h : k < s.size) (hf : isLet s[k] = false) : lets s.data.toList = false := by
  unfold lets
  rw [List.all_eq_false]
  refine ⟨s[k], ?_, by simp [hf]⟩
  exact List.getElem_mem (l := s.data.toList) (by simpa using h)
theorem ret_bool {a b : Bool} (h : a = b) : Ending.returned (.bool a) = .returned (.bool b) := by rw [h]

def tyLettersF (l : List UInt8) (m : Int) : Bool := lets l && (decide (1 ≤ l.length) && decide ((l.length : Int) ≤ m))

theorem tyLetters_any (s : ByteArray) (m : Int) (w : World) (hs : s.size ≤ maxLen) :
    Calls Try.prog 98 #[.string s, .int .i64 m] w fun e w' => e = .returned (.bool (tyLettersF s.data.toList m)) ∧ w = w' := by
  unfold maxLen at hs
  go_enter Try.func98, Try.ntmps98
  go_wp2
  go_loop [5] (fun i => ∃ k : Nat, k ≤ s.size ∧ i = .int .i64 k ∧ lets (s.data.toList.take k) = true) (fun i => s.size - (intOf i).toNat)
  case atStart => exact ⟨0, Nat.zero_le _, rfl, rfl⟩
  case round =>
    obtain ⟨k, hk, rfl, hl⟩ := hrel
    have HL := Lib.hid hl; clear hl
    by_cases hlt : k < s.size
    · by_cases h1 : 97 ≤ (s[k].toNat : Int)
      · by_cases h2 : (s[k].toNat : Int) ≤ 122
        · go_wp2
          go_round
          case rel => exact ⟨k + 1, by omega, by go_num, by rw [take_snoc s k hlt, lets_snoc, HL.out, isLet_int]; simp [h1, h2]⟩
          case measure => simp [intOf]; omega
        · go_wp2
          go_ret
          exact ⟨ret_bool (by unfold tyLettersF; rw [lets_false_of s k hlt (by rw [isLet_int]; simp; omega)]; rfl), rfl⟩
      · go_wp2
        go_ret
        exact ⟨ret_bool (by unfold tyLettersF; rw [lets_false_of s k hlt (by rw [isLet_int]; simp; omega)]; rfl), rfl⟩
    · obtain rfl : k = s.size := by omega
      go_wp2_with (go_at_call 75; refine (in_any _ _ _ _).mono ?_; rintro e w' ⟨rfl, rfl⟩)
      go_ret
      exact ⟨ret_bool (by
        have e := HL.out
        rw [List.take_of_length_le (by simp)] at e
        unfold tyLettersF; rw [e, ← show decide ((1:Int) ≤ s.size) = decide (1 ≤ s.data.toList.length) from decide_eq_decide.2 (by rw [Array.length_toList]; show _ ↔ 1 ≤ s.size; omega)]; simp), rfl⟩
end Go.Proofs.Ytpbkeagpipipmaa.S1

/-
  The contracts of the functions on one sort by value (spec.tySort, spec.IsSort, impl.areLetters, impl.isCode, impl.isWord, impl.IsSort, laws.szSort, laws.toSort): each returns what the plain function here says, at every argument, and changes nothing that was there.
-/
namespace Go.Proofs.Ytpbkeagpipipmaa.S1
open Go.RowKit
set_option linter.unusedVariables false

def tySortF (c : ByteArray) (n : Int) : Bool := tyLettersF c.data.toList 3 && (decide (1 ≤ n) && decide (n ≤ 54))

theorem tySort_any (c : ByteArray) (n : Int) (w : World) (hs : c.size ≤ maxLen) :
    Calls Try.prog 90 #[.agg #[.string c, .int .i64 n]] w fun e w' => e = .returned (.bool (tySortF c n)) ∧ Below w.heap.size w w' := by
  cases hl : tyLettersF c.data.toList 3
  · go_enter Try.func90, Try.ntmps90
    have HL := Lib.hid hl; clear hl
    go_wp2_with fail
    refine (tyLetters_any _ _ _ hs).mono ?_
    rintro e w' ⟨rfl, rfl⟩
    rw [HL.out]
    go_wp2
    go_ret
    exact ⟨by unfold tySortF; rw [HL.out]; rfl, (Below.refl _ _).alloc (Nat.le_refl _) _⟩
  · go_enter Try.func90, Try.ntmps90
    have HL := Lib.hid hl; clear hl
    go_wp2_with fail
    refine (tyLetters_any _ _ _ hs).mono ?_
    rintro e w' ⟨rfl, rfl⟩
    rw [HL.out]
    go_wp2_with (go_at_call 75; refine (in_any _ _ _ _).mono ?_; rintro e w' ⟨rfl, rfl⟩)
    go_ret
    exact ⟨by unfold tySortF; rw [HL.out]; rfl, (Below.refl _ _).alloc (Nat.le_refl _) _⟩

theorem areLetters_any (s : ByteArray) (w : World) (hs : s.size ≤ maxLen) :
    Calls Try.prog 100 #[.string s] w fun e w' => e = .returned (.bool (lets s.data.toList)) ∧ Below w.heap.size w w' := by
  unfold maxLen at hs
  go_enter Try.func100, Try.ntmps100
  go_wp2
  go_loopw [] (fun w' => ∃ (pos : Nat), w' = w.iter s pos ∧ pos ≤ s.size ∧ lets (s.data.toList.take pos) = true) (fun w' => s.size - w'.iterPos w.heap.size)
  case atStart => exact ⟨0, rfl, Nat.zero_le _, rfl⟩
  case round =>
    obtain ⟨pos, rfl, hp, hl⟩ := hrel
    have HL := Lib.hid hl; clear hl
    by_cases hlt : pos < s.size
    · by_cases ha : (s[pos]'hlt).toNat < 128
      · have hnx : ∀ ty, (Instr.next (.pointer (some ⟨w.heap.size, 0, none⟩)) true ty).run Try.prog (w.iter s pos) = _ := fun ty => run_next_ascii w s pos ty hlt ha
        by_cases h1 : 97 ≤ (s[pos].toNat : Int)
        · by_cases h2 : (s[pos].toNat : Int) ≤ 122
          · go_wp2
            go_roundw
            case rel => exact ⟨pos + 1, rfl, by omega, by rw [take_snoc s pos hlt, lets_snoc, HL.out, isLet_int]; simp [h1, h2]⟩
            case measure => simp; omega
          · go_wp2
            go_ret
            exact ⟨ret_bool (by rw [lets_false_of s pos hlt (by rw [isLet_int]; simp; omega)]), (Below.refl _ _).alloc (Nat.le_refl _) _⟩
        · go_wp2
          go_ret
          exact ⟨ret_bool (by rw [lets_false_of s pos hlt (by rw [isLet_int]; simp; omega)]), (Below.refl _ _).alloc (Nat.le_refl _) _⟩
      · have hnx : ∀ ty, (Instr.next (.pointer (some ⟨w.heap.size, 0, none⟩)) true ty).run Try.prog (w.iter s pos) = _ := fun ty => run_next_any w s pos ty hlt
        have hh := (decode_high s pos hlt (by omega)).1
        have h1 : (97 : Int) ≤ ((Utf8.decode s pos).1 : Int) := by omega
        have h2 : (122 : Int) < ((Utf8.decode s pos).1 : Int) := by omega
        go_wp2
        go_ret
        exact ⟨ret_bool (by rw [lets_false_of s pos hlt (by rw [isLet_int]; simp; omega)]), (Below.refl _ _).alloc (Nat.le_refl _) _⟩
    · have hnx : ∀ ty, (Instr.next (.pointer (some ⟨w.heap.size, 0, none⟩)) true ty).run Try.prog (w.iter s pos) = _ := fun ty => run_next_end w s pos ty hlt
      obtain rfl : pos = s.size := by omega
      go_wp2
      go_ret
      exact ⟨ret_bool (by
        have e := HL.out
        rw [List.take_of_length_le (by simp)] at e
        rw [e]), (Below.refl _ _).alloc (Nat.le_refl _) _⟩

def isCodeF (l : List UInt8) (m : Nat) : Bool := (decide (1 ≤ (l.length : Int)) && decide ((l.length : Int) ≤ m)) && lets l

theorem isCodeF_eq (l : List UInt8) (m : Nat) : isCodeF l m = tyLettersF l m := by
  unfold isCodeF tyLettersF
  rw [show decide ((1:Int) ≤ l.length) = decide (1 ≤ l.length) from decide_eq_decide.2 (by omega)]
  exact Bool.and_comm _ _

theorem len_list (s : ByteArray) : s.data.toList.length = s.size := by rw [Array.length_toList]; rfl

theorem isCode_any (s : ByteArray) (w : World) (hs : s.size ≤ maxLen) :
    Calls Try.prog 103 #[.string s] w fun e w' => e = .returned (.bool (tyLettersF s.data.toList 3)) ∧ Below w.heap.size w w' := by
  have H := isCodeF_eq s.data.toList 3
  unfold isCodeF at H
  rw [len_list] at H
  have HE := Lib.hid H; clear H
  by_cases h1 : 1 ≤ (s.size : Int)
  · by_cases h2 : (s.size : Int) ≤ 3
    · go_enter Try.func103, Try.ntmps103
      go_wp2_with fail
      refine (areLetters_any _ _ hs).mono ?_
      rintro e w' ⟨rfl, hb⟩
      go_wp2
      go_ret
      have d1 := decide_eq_true h1; have d2 : decide ((s.size : Int) ≤ ((3 : Nat) : Int)) = true := decide_eq_true h2
      exact ⟨ret_bool (by have e := HE.out; rw [d1, d2] at e; simpa using e), hb⟩
    · go_enter Try.func103, Try.ntmps103
      go_wp2
      go_ret
      have d1 := decide_eq_true h1; have d2 : decide ((s.size : Int) ≤ ((3 : Nat) : Int)) = false := decide_eq_false (by omega)
      exact ⟨ret_bool (by have e := HE.out; rw [d1, d2] at e; simpa using e), Below.refl _ _⟩
  · go_enter Try.func103, Try.ntmps103
    go_wp2
    go_ret
    have d1 : decide (1 ≤ (s.size : Int)) = false := decide_eq_false (by omega)
    exact ⟨ret_bool (by have e := HE.out; rw [d1] at e; simpa using e), Below.refl _ _⟩

theorem implIsSort_any (c : ByteArray) (n : Int) (w : World) (hs : c.size ≤ maxLen) :
    Calls Try.prog 99 #[.agg #[.string c, .int .i64 n]] w fun e w' => e = .returned (.bool (tySortF c n)) ∧ Below w.heap.size w w' := by
  have H : tySortF c n = (tyLettersF c.data.toList 3 && (decide (1 ≤ n) && decide (n ≤ 54))) := rfl
  have HE := Lib.hid H; clear H
  cases hl : tyLettersF c.data.toList 3
  · go_enter Try.func99, Try.ntmps99
    have HL := Lib.hid hl; clear hl
    go_wp2_with fail
    refine (isCode_any _ _ hs).mono ?_
    rintro e w' ⟨rfl, hb⟩
    rw [HL.out]
    go_wp2
    go_ret
    exact ⟨by rw [HE.out, HL.out]; rfl, ((Below.refl _ _).alloc (Nat.le_refl _) _).trans (hb.mono (by simp))⟩
  · go_enter Try.func99, Try.ntmps99
    have HL := Lib.hid hl; clear hl
    go_wp2_with fail
    refine (isCode_any _ _ hs).mono ?_
    rintro e w' ⟨rfl, hb⟩
    rw [HL.out]
    have hc : w'.cell? ⟨w.heap.size, 1, none⟩ = some (.int .i64 n) := by rw [hb.cell (by simp)]; simp
    rcases (by omega : (1 ≤ n ∧ n ≤ 54) ∨ n < 1 ∨ 54 < n) with ⟨h1, h2⟩ | h1 | h1
    · go_wp2
      go_ret
      exact ⟨by rw [HE.out, HL.out]; simp [h1, h2], ((Below.refl _ _).alloc (Nat.le_refl _) _).trans (hb.mono (by simp))⟩
    · go_wp2
      go_ret
      exact ⟨by rw [HE.out, HL.out]; simp; omega, ((Below.refl _ _).alloc (Nat.le_refl _) _).trans (hb.mono (by simp))⟩
    · have h2 : 1 ≤ n := by omega
      go_wp2
      go_ret
      exact ⟨by rw [HE.out, HL.out]; simp; omega, ((Below.refl _ _).alloc (Nat.le_refl _) _).trans (hb.mono (by simp))⟩

theorem szSort_any (c : ByteArray) (n l : Int) (w : World) (hs : c.size ≤ maxLen) (h1 : 0 ≤ l) (h2 : l ≤ 1048576) :
    Calls Try.prog 77 #[.agg #[.string c, .int .i64 n], .int .i64 l] w fun e w' => e = .returned (.int .i64 (if l < c.size then -1 else l - c.size)) ∧ Below w.heap.size w w' := by
  unfold maxLen at hs
  by_cases h : l < c.size
  · go_enter Try.func77, Try.ntmps77
    have h' : l - (c.size : Int) < 0 := by omega
    go_wp2
    go_ret
    exact ⟨by first | (simp; done) | simp [h], (Below.refl _ _).alloc (Nat.le_refl _) _⟩
  · go_enter Try.func77, Try.ntmps77
    have h' : ¬ l - (c.size : Int) < 0 := by omega
    go_wp2
    go_ret
    exact ⟨by first | (simp; done) | simp [h], (Below.refl _ _).alloc (Nat.le_refl _) _⟩

theorem toSort_any (c : ByteArray) (n : Int) (w : World) :
    Calls Try.prog 78 #[.agg #[.string c, .int .i64 n]] w fun e w' => e = .returned (.agg #[.string c, .int .i64 n]) ∧ Below w.heap.size w w' := by
  go_enter Try.func78, Try.ntmps78
  go_wp2
  refine bodyPost_ret (v := .agg #[.string c, .int .i64 n]) (by simp [results, Try.results78, go_sem]) rfl ⟨rfl, ?_⟩
  exact (((Below.refl _ _).alloc (Nat.le_refl _) _).alloc (by simp) _).alloc (by simp; omega) _
end Go.Proofs.Ytpbkeagpipipmaa.S1

/-
  The contracts of the functions on a slice of sorts that only read (laws.szSortS, laws.toSortS, laws.eqSortS, spec.tyFont, impl.IsFont): each returns what the plain function here says and changes nothing that was there.
-/
namespace Go.Proofs.Ytpbkeagpipipmaa.S1
open Go.RowKit
set_option linter.unusedVariables false

/-- A slice of sorts at A reads as the list f; its block lies from lo on and below the heap's end. -/
def SortsIn (w : World) (lo : Nat) (A : Option Addr) (f : List (ByteArray × Int)) : Prop :=
  0 < f.length → ∃ b off, A = some ⟨b, off, none⟩ ∧ lo ≤ b ∧ b < w.heap.size ∧ ∀ k (h : k < f.length), w.cell? ⟨b, off + k * 2, none⟩ = some (.string f[k].1) ∧ w.cell? ⟨b, off + k * 2 + 1, none⟩ = some (.int .i64 f[k].2)
/-- Each Code is no longer than a string can be. -/
def CodesOk (f : List (ByteArray × Int)) : Prop := ∀ k (h : k < f.length), f[k].1.size ≤ maxLen

theorem SortsIn.below {w w' : World} {lo B : Nat} {A : Option Addr} {f : List (ByteArray × Int)} (h : SortsIn w lo A f) (hb : Below B w w') (hB : w.heap.size ≤ B) : SortsIn w' lo A f := by
  intro hn
  obtain ⟨b, off, rfl, h1, h2, h3⟩ := h hn
  refine ⟨b, off, rfl, h1, Nat.lt_of_lt_of_le h2 hb.size, fun k hk => ?_⟩
  rw [hb.cell (by show b < B; omega), hb.cell (by show b < B; omega)]
  exact h3 k hk

theorem ret_int {k : IntKind} {a b : Int} (h : a = b) : Ending.returned (.int k a) = .returned (.int k b) := by rw [h]
def szF : List (ByteArray × Int) → Int → Int
  | [], l => l
  | x :: r, l => if l < x.1.size then -1 else szF r (l - x.1.size)
def szSortSF (f : List (ByteArray × Int)) (l : Int) : Int := if l < f.length then -1 else szF f (l - f.length)
theorem szF_drop (f : List (ByteArray × Int)) (k : Nat) (h : k < f.length) (l : Int) : szF (f.drop k) l = if l < f[k].1.size then -1 else szF (f.drop (k + 1)) (l - f[k].1.size) := by
  rw [List.drop_eq_getElem_cons h]; rfl

theorem sz_len (f : List (ByteArray × Int)) (h : 0 ≤ szSortSF f 1048576) : f.length ≤ 1048576 := by
  unfold szSortSF at h
  split at h <;> omega

theorem szSortS_any (f : List (ByteArray × Int)) (A : Option Addr) (c : Nat) (l : Int) (lo : Nat) (w : World) (hf : SortsIn w lo A f) (ho : CodesOk f) (hn : f.length ≤ maxLen) (h1 : 0 ≤ l) (h2 : l ≤ 1048576) :
    Calls Try.prog 45 #[.slice A f.length c, .int .i64 l] w fun e w' => e = .returned (.int .i64 (szSortSF f l)) ∧ Below w.heap.size w w' := by
  unfold maxLen at hn
  have HO := Lib.hid ho; clear ho
  have HF := Lib.hid hf; clear hf
  by_cases h : l < f.length
  · go_enter Try.func45, Try.ntmps45
    have h' : l - (f.length : Int) < 0 := by omega
    go_wp2
    go_ret
    exact ⟨ret_int (by unfold szSortSF; rw [if_pos h]), Below.refl _ _⟩
  · have hd : szSortSF f l = szF (f.drop 0) (l - f.length) := by unfold szSortSF; rw [if_neg h]; rfl
    have HD := Lib.hid hd; clear hd
    go_enter Try.func45, Try.ntmps45
    have h' : ¬ l - (f.length : Int) < 0 := by omega
    go_wp2
    go_loopw [1, 5] (fun t i wr => ∃ (k : Nat) (L : Int), k ≤ f.length ∧ i = .int .i64 k ∧ t = .int .i64 L ∧ 0 ≤ L ∧ L ≤ 1048576 ∧ szSortSF f l = szF (f.drop k) L ∧ Below w.heap.size w wr) (fun _ i _ => f.length - (intOf i).toNat)
    case atStart => exact ⟨0, _, Nat.zero_le _, rfl, rfl, by omega, by omega, HD.out, Below.refl _ _⟩
    case round =>
      obtain ⟨k, L, hk, rfl, rfl, hL1, hL2, hs, hb⟩ := hrel
      have HS := Lib.hid hs; clear hs
      by_cases hlt : k < f.length
      · obtain ⟨b, off, rfl, _, hbl, hc⟩ := HF.out (by omega)
        obtain ⟨hc0, hc1⟩ := hc k hlt
        clear hc
        rw [← hb.cell (p := ⟨b, off + k * 2, none⟩) hbl] at hc0
        rw [← hb.cell (p := ⟨b, off + k * 2 + 1, none⟩) hbl] at hc1
        have hsz := szF_drop f k hlt L
        have HZ := Lib.hid hsz; clear hsz
        have hok := HO.out k hlt
        go_wp2_with fail
        refine (szSort_any _ _ _ _ hok hL1 hL2).mono ?_
        rintro e w1 ⟨rfl, hb1⟩
        have hb' : Below w.heap.size w w1 := hb.trans (hb1.mono hb.size)
        clear hb hb1 hc0 hc1 hok
        by_cases hl : L < (f[k].1.size : Int)
        · rw [if_pos hl]
          go_wp2
          go_ret
          exact ⟨ret_int (by rw [HS.out, HZ.out, if_pos hl]), hb'⟩
        · rw [if_neg hl]
          have hl' : ¬ L - (f[k].1.size : Int) < 0 := by omega
          go_wp2
          go_roundw
          case rel => exact ⟨k + 1, _, by omega, by go_num, rfl, by omega, by omega, by rw [HS.out, HZ.out, if_neg (by omega)], hb'⟩
          case measure => simp [intOf]; omega
      · obtain rfl : k = f.length := by omega
        go_wp2
        go_ret
        exact ⟨ret_int (by rw [HS.out, List.drop_length]; rfl), hb⟩

theorem str_inj {c d : ByteArray} (e : c.toList = d.toList) : c = d := by
  rw [ByteArray.toList_eq, ByteArray.toList_eq] at e
  exact ByteArray.ext (Array.ext' e)
theorem str_ne {c d : ByteArray} (h : ¬ c = d) : (!c.toList == d.toList) = true := by
  have : c.toList ≠ d.toList := fun e => h (str_inj e)
  rw [beq_eq_false_iff_ne.2 this]; rfl

theorem eqSort_any (c d : ByteArray) (n m : Int) (w : World) :
    Calls Try.prog 79 #[.agg #[.string c, .int .i64 n], .agg #[.string d, .int .i64 m]] w fun e w' => e = .returned (.bool (decide ((c, n) = (d, m)))) ∧ Below w.heap.size w w' := by
  have hb : Below w.heap.size w ((w.alloc (.cells #[.string c, .int .i64 n] 91)).alloc (.cells #[.string d, .int .i64 m] 91)) := ((Below.refl _ _).alloc (Nat.le_refl _) _).alloc (by simp) _
  by_cases h1 : c = d
  · subst h1
    by_cases h2 : n = m
    · subst h2
      go_enter Try.func79, Try.ntmps79
      go_wp2
      go_ret
      exact ⟨by simp, hb⟩
    · have h3 : (n != m) = true := by simp [h2]
      have H2 := Lib.hid h2; clear h2
      go_enter Try.func79, Try.ntmps79
      go_wp2
      go_ret
      exact ⟨by simp [H2.out], hb⟩
  · have h3 : (!c.toList == d.toList) = true := str_ne h1
    have H2 := Lib.hid h1; clear h1
    go_enter Try.func79, Try.ntmps79
    go_wp2
    go_ret
    exact ⟨by simp [H2.out], hb⟩

set_option maxRecDepth 100000 in
theorem eqSortS_any (f g : List (ByteArray × Int)) (A B : Option Addr) (c d : Nat) (lo lo' : Nat) (w : World) (hf : SortsIn w lo A f) (hg : SortsIn w lo' B g) (hn : f.length ≤ maxLen) (hm : g.length ≤ maxLen) :
    Calls Try.prog 49 #[.slice A f.length c, .slice B g.length d] w fun e w' => e = .returned (.bool (decide (f = g))) ∧ Below w.heap.size w w' := by
  unfold maxLen at hn hm
  have HF := Lib.hid hf; clear hf
  have HG := Lib.hid hg; clear hg
  by_cases h : f.length = g.length
  · have HL := Lib.hid h
    have h' : ((f.length : Int) != (g.length : Int)) = false := by simp [h]
    clear h
    go_enter Try.func49, Try.ntmps49
    go_wp2
    go_loopw [5] (fun i wr => ∃ (k : Nat), k ≤ f.length ∧ i = .int .i64 k ∧ f.take k = g.take k ∧ Below w.heap.size w wr) (fun i _ => f.length - (intOf i).toNat)
    case atStart => exact ⟨0, Nat.zero_le _, rfl, rfl, Below.refl _ _⟩
    case round =>
      obtain ⟨k, hk, rfl, hs, hb⟩ := hrel
      have HS := Lib.hid hs; clear hs
      by_cases hlt : k < f.length
      · have hkg : k < g.length := by have := HL.out; omega
        obtain ⟨b, off, rfl, _, hbl, hc⟩ := HF.out (by omega)
        obtain ⟨hc0, hc1⟩ := hc k hlt
        clear hc
        rw [← hb.cell (p := ⟨b, off + k * 2, none⟩) hbl] at hc0
        rw [← hb.cell (p := ⟨b, off + k * 2 + 1, none⟩) hbl] at hc1
        obtain ⟨b', off', rfl, _, hbl', hd⟩ := HG.out (by omega)
        obtain ⟨hd0, hd1⟩ := hd k hkg
        clear hd
        rw [← hb.cell (p := ⟨b', off' + k * 2, none⟩) hbl'] at hd0
        rw [← hb.cell (p := ⟨b', off' + k * 2 + 1, none⟩) hbl'] at hd1
        go_wp2_with fail
        go_still_tail 8, (by kernel_rfl)
        change wpList _ _ _ _ _ wr.drew
        go_wp2_with fail
        refine (eqSort_any _ _ _ _ _).mono ?_
        rintro e w1 ⟨rfl, hb1⟩
        have hb' : Below w.heap.size w w1 := (hb.drew).trans (hb1.mono hb.size)
        clear hb hb1 hc0 hc1 hd0 hd1
        by_cases hl : f[k] = g[k]
        · rw [show decide ((f[k].1, f[k].2) = (g[k].1, g[k].2)) = true from decide_eq_true hl]
          have HE := Lib.hid hl; clear hl
          go_wp2
          go_roundw
          case rel => exact ⟨k + 1, by omega, by go_num, by rw [List.take_succ_eq_append_getElem hlt, List.take_succ_eq_append_getElem hkg, HS.out, HE.out], hb'⟩
          case measure => simp [intOf]; omega
        · rw [show decide ((f[k].1, f[k].2) = (g[k].1, g[k].2)) = false from decide_eq_false hl]
          have HE := Lib.hid hl; clear hl
          go_wp2
          go_ret
          exact ⟨ret_bool (by
            symm; apply decide_eq_false; intro he; apply HE.out; subst he; rfl), hb'⟩
      · obtain rfl : k = f.length := by omega
        go_wp2
        go_ret
        exact ⟨ret_bool (by
          symm; apply decide_eq_true
          have e := HS.out
          rw [List.take_length, HL.out, List.take_length] at e
          exact e), hb⟩
  · have H := Lib.hid h
    have h' : ((f.length : Int) != (g.length : Int)) = true := by simp; omega
    clear h
    go_enter Try.func49, Try.ntmps49
    go_wp2
    go_ret
    exact ⟨ret_bool (by symm; apply decide_eq_false; intro he; apply H.out; rw [he]), Below.refl _ _⟩
end Go.Proofs.Ytpbkeagpipipmaa.S1
