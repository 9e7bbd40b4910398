import Derived.Test.YtnbnegkoanidmaaGreatDoorMsd
import Derived.Test.YtnbnegkoanidmaaGreatDoorMsc
/-
  The contracts of the laws' own helpers on slices of strings: laws.eqStringS, laws.markStringS, laws.heldStringS.
-/
namespace Go.Proofs.YtnbnegkoanidmaaGreatDoor.S1
open Go.RowKit
set_option linter.unusedVariables false

def strs (l : List ByteArray) : List Value := l.map fun s => .string s
/-- A slice of strings at A reads as l. -/
def StrsIn (w : World) (A : Option Addr) (l : List ByteArray) : Prop :=
  0 < l.length → ∃ b off, A = some ⟨b, off, none⟩ ∧ b < w.heap.size ∧ ∀ k (h : k < l.length), w.cell? ⟨b, off + k, none⟩ = some (.string l[k])
theorem StrsIn.below {w w' : World} {B : Nat} {A : Option Addr} {l : List ByteArray} (h : StrsIn w A l) (hb : Below B w w') (hB : w.heap.size ≤ B) : StrsIn w' A l := by
  intro hn
  obtain ⟨b, off, rfl, h2, h3⟩ := h hn
  refine ⟨b, off, rfl, Nat.lt_of_lt_of_le h2 hb.size, fun k hk => ?_⟩
  rw [hb.cell (by show b < B; omega)]
  exact h3 k hk
theorem own_strs {w : World} {base n : Nat} {e : TypeId} {v : Value} {l : List ByteArray} (h : w.ownsRow base e 1 v n (strs l)) : ∃ A c, v = .slice A l.length c ∧ n = l.length ∧ StrsIn w A l := by
  have hn : n = l.length := by have := h.1; simp [strs] at this; omega
  subst hn
  rcases h.2 with ⟨rfl, h0⟩ | ⟨g, cap, cur, rfl, hg, hh, h1, h2, h3, h4⟩
  · exact ⟨none, 0, by rw [h0], rfl, fun h => absurd h (by omega)⟩
  · refine ⟨_, _, rfl, rfl, fun _ => ⟨g, 0, rfl, lt_of_heap hh, fun k hk => ?_⟩⟩
    rw [h.cellAt (0 + k) (by omega)]
    simp [strs, hk]
theorem own_form_s {w : World} {base n : Nat} {e : TypeId} {v : Value} {l : List ByteArray} (h : w.ownsRow base e 1 v n (strs l)) : ∃ A c, v = .slice A l.length c := by
  obtain ⟨A, c, hv, _, _⟩ := own_strs h
  exact ⟨A, c, hv⟩
theorem own_in_s {w : World} {base n m c : Nat} {e : TypeId} {A : Option Addr} {l : List ByteArray} (h : w.ownsRow base e 1 (.slice A m c) n (strs l)) : StrsIn w A l := by
  obtain ⟨A', c', hv, _, hi⟩ := own_strs h
  injection hv with h1
  subst h1
  exact hi

/-- The texts of the marks k, k+1, .. -/
def marksT (k n : Nat) : List ByteArray := (List.range n).map fun i => markT (k + i)
theorem marksT_len (k n : Nat) : (marksT k n).length = n := by simp [marksT]
theorem marksT_get (k n i : Nat) (h : i < (marksT k n).length) : (marksT k n)[i] = markT (k + i) := by simp [marksT]
theorem marksT_succ (k j : Nat) : marksT k (j + 1) = marksT k j ++ [markT (k + j)] := by simp [marksT, List.range_succ]

end Go.Proofs.YtnbnegkoanidmaaGreatDoor.S1

/-
  Slices of strings as the arguments of a law: laws.szStringS, laws.toStringS; spec.tyWords and impl.areWords on them.
-/
namespace Go.Proofs.YtnbnegkoanidmaaGreatDoor.S1
open Go.RowKit
set_option linter.unusedVariables false

/-- Every text of the slice is of a size that a string may have. -/
def StrsOk (l : List ByteArray) : Prop := ∀ k (h : k < l.length), l[k].size ≤ maxLen
def szT : List ByteArray → Int → Int
  | [], l => l
  | x :: r, l => if l < x.size then -1 else szT r (l - x.size)
def szStringSF (f : List ByteArray) (l : Int) : Int := if l < f.length then -1 else szT f (l - f.length)
theorem szT_drop (f : List ByteArray) (k : Nat) (h : k < f.length) (l : Int) : szT (f.drop k) l = if l < f[k].size then -1 else szT (f.drop (k + 1)) (l - f[k].size) := by
  rw [List.drop_eq_getElem_cons h]; rfl

theorem szStrs_len (f : List ByteArray) (l : Int) (h2 : l ≤ 1048576) (h : 0 ≤ szStringSF f l) : f.length ≤ 1048576 := by
  unfold szStringSF at h
  split at h <;> omega

theorem infoStr : (Tryz.prog.info? 9).map (fun i => (i.zero, i.size, i.bytes)) = some (some (.string .empty), 1, 16) := by kernel_rfl
theorem run_makeStr (n : Nat) (hn : n ≤ 1048576) (w : World) :
    (Instr.makeSlice 31 (.int .i64 (n : Int)) (.int .i64 (n : Int))).run Tryz.prog w = .ok (.slice (some ⟨w.heap.size, 0, none⟩) n n) (w.alloc (.cells (madeCells #[.string .empty] (n * 1)) 9)) := by
  obtain ⟨i0, hi, hz0, hz1, hz2⟩ := info_parts infoStr
  have h := run_make (P := Tryz.prog) w 31 9 i0 _ Tryz.underlying31 hi hz0 .i64 .i64 (n : Int) (n : Int) (by omega) (Int.le_refl _) (by rw [hz2]; omega) (by omega)
  rw [hz1, Int.toNat_natCast] at h
  exact h
theorem strs_of_marked {w : World} {b : Nat} {e : TypeId} {l : List ByteArray} (h : Marked w b e l.length (strs l)) : StrsIn w (some ⟨b, 0, none⟩) l := by
  intro hn
  obtain ⟨cur, h1, h2, h3⟩ := h
  refine ⟨b, 0, rfl, lt_of_heap h1, fun k hk => ?_⟩
  rw [cell_of_heap h1]
  have e : cur.toList = strs l := by
    rw [List.take_of_length_le (by simp [strs, h2])] at h3
    exact h3
  rw [← Array.getElem?_toList, e]
  simp [strs, hk]

/-- The texts are a list of words. -/
def wordsB (l : List ByteArray) : Bool := decide ((l.length : Int) ≤ 40) && l.all isWordF
theorem words_step {l : List ByteArray} {k : Nat} (h : k < l.length) (hs : (l.take k).all isWordF = true) (hk : isWordF l[k] = true) : (l.take (k + 1)).all isWordF = true := by
  rw [List.take_succ_eq_append_getElem h, List.all_append, hs, Bool.true_and, List.all_cons, hk]; rfl
theorem words_no {l : List ByteArray} {k : Nat} (h : k < l.length) (hk : isWordF l[k] = false) : wordsB l = false := by
  unfold wordsB
  rw [Bool.and_eq_false_iff]
  refine .inr ?_
  rw [List.all_eq_false]
  exact ⟨l[k], List.getElem_mem h, by simp [hk]⟩

theorem tyWord_is (s : ByteArray) (b : Bool) (w : World) (hs : s.size ≤ maxLen) (h : Hid (isWordF s = b)) :
    Calls Tryz.prog 82 #[.string s] w fun e w' => e = .returned (.bool b) ∧ w = w' := by
  have := tyWord_any s w hs; rw [h.out] at this; exact this
theorem isWord_is (s : ByteArray) (b : Bool) (w : World) (hs : s.size ≤ maxLen) (h : Hid (isWordF s = b)) :
    Calls Tryz.prog 73 #[.string s] w fun e w' => e = .returned (.bool b) ∧ Below w.heap.size w w' := by
  have := isWord_any s w hs; rw [h.out] at this; exact this

set_option maxRecDepth 100000 in
theorem tyWords_any (l : List ByteArray) (A : Option Addr) (c : Nat) (w : World) (hf : StrsIn w A l) (ho : StrsOk l) (hn : l.length ≤ 1048576) :
    Calls Tryz.prog 70 #[.slice A l.length c] w fun e w' => e = .returned (.bool (wordsB l)) ∧ Below w.heap.size w w' := by
  have HO := Lib.hid ho; clear ho
  have HF := Lib.hid hf; clear hf
  go_enter Tryz.func70, Tryz.ntmps70
  go_wp2
  go_loopw [7] (fun i wr => ∃ (k : Nat), k ≤ l.length ∧ i = .int .i64 k ∧ (l.take k).all isWordF = true ∧ Below w.heap.size w wr) (fun i _ => l.length - (intOf i).toNat)
  case atStart => exact ⟨0, Nat.zero_le _, rfl, rfl, Below.refl _ _⟩
  case round =>
    obtain ⟨k, hk, rfl, hs, hb⟩ := hrel
    have HS := Lib.hid hs; clear hs
    by_cases hlt : k < l.length
    · obtain ⟨b, off, rfl, hbl, hc⟩ := HF.out (by omega)
      have hc0 := hc k hlt
      clear hc
      rw [← hb.cell (p := ⟨b, off + k, none⟩) hbl] at hc0
      have hok := HO.out k hlt
      cases hw : isWordF l[k]
      · have HW := Lib.hid hw; clear hw
        go_wp2_with fail
        refine (tyWord_is _ _ _ hok HW).mono ?_
        rintro e w1 ⟨rfl, rfl⟩
        go_wp2
        go_ret
        exact ⟨ret_bool (words_no hlt HW.out).symm, hb⟩
      · have HW := Lib.hid hw; clear hw
        go_wp2_with fail
        refine (tyWord_is _ _ _ hok HW).mono ?_
        rintro e w1 ⟨rfl, rfl⟩
        go_wp2
        go_roundw
        case rel => exact ⟨k + 1, by omega, by go_num, words_step hlt HS.out HW.out, hb⟩
        case measure => simp [intOf]; omega
    · obtain rfl : k = l.length := by omega
      go_wp2
      go_ret
      exact ⟨ret_bool (by unfold wordsB; have := HS.out; rw [List.take_length] at this; rw [this, Bool.and_true]), hb⟩

set_option maxRecDepth 100000 in
theorem areWords_any (l : List ByteArray) (A : Option Addr) (c : Nat) (w : World) (hf : StrsIn w A l) (ho : StrsOk l) (hn : l.length ≤ 1048576) :
    Calls Tryz.prog 56 #[.slice A l.length c] w fun e w' => e = .returned (.bool (wordsB l)) ∧ Below w.heap.size w w' := by
  have HO := Lib.hid ho; clear ho
  have HF := Lib.hid hf; clear hf
  by_cases h40 : (40 : Int) < l.length
  · go_enter Tryz.func56, Tryz.ntmps56
    go_wp2
    go_ret
    exact ⟨ret_bool (by unfold wordsB; rw [decide_eq_false (by omega)]; rfl), Below.refl _ _⟩
  go_enter Tryz.func56, Tryz.ntmps56
  go_wp2
  go_loopw [10] (fun i wr => ∃ (k : Nat), k ≤ l.length ∧ i = .int .i64 k ∧ (l.take k).all isWordF = true ∧ Below w.heap.size w wr) (fun i _ => l.length - (intOf i).toNat)
  case atStart => exact ⟨0, Nat.zero_le _, rfl, rfl, Below.refl _ _⟩
  case round =>
    obtain ⟨k, hk, rfl, hs, hb⟩ := hrel
    have HS := Lib.hid hs; clear hs
    by_cases hlt : k < l.length
    · obtain ⟨b, off, rfl, hbl, hc⟩ := HF.out (by omega)
      have hc0 := hc k hlt
      clear hc
      rw [← hb.cell (p := ⟨b, off + k, none⟩) hbl] at hc0
      have hok := HO.out k hlt
      cases hw : isWordF l[k]
      · have HW := Lib.hid hw; clear hw
        go_wp2_with fail
        refine (isWord_is _ _ _ hok HW).mono ?_
        rintro e w1 ⟨rfl, hb1⟩
        have hb' := hb.trans (hb1.mono hb.size)
        go_wp2
        go_ret
        exact ⟨ret_bool (words_no hlt HW.out).symm, hb'⟩
      · have HW := Lib.hid hw; clear hw
        go_wp2_with fail
        refine (isWord_is _ _ _ hok HW).mono ?_
        rintro e w1 ⟨rfl, hb1⟩
        have hb' := hb.trans (hb1.mono hb.size)
        clear hb hb1
        go_wp2
        go_roundw
        case rel => exact ⟨k + 1, by omega, by go_num, words_step hlt HS.out HW.out, hb'⟩
        case measure => simp [intOf]; omega
    · obtain rfl : k = l.length := by omega
      go_wp2
      go_ret
      exact ⟨ret_bool (by unfold wordsB; have := HS.out; rw [List.take_length] at this; rw [this, Bool.and_true, decide_eq_true (by omega)]), hb⟩
end Go.Proofs.YtnbnegkoanidmaaGreatDoor.S1
