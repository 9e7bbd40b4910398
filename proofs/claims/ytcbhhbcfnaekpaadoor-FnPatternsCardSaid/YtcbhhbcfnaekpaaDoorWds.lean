/-
  Slices of strings as the arguments of a law: laws.szStringS, laws.toStringS; spec.tyWords and impl.areWords on them.
-/
import Derived.Test.YtcbhhbcfnaekpaaDoorStr
import Derived.Test.YtcbhhbcfnaekpaaDoorFind
namespace Go.Proofs.YtcbhhbcfnaekpaaDoor
open Go.RowKit
set_option linter.unusedVariables false

/-- Every text of the slice is of a size that a string may have. -/
def StrsOk (l : List ByteArray) : Prop := ∀ k (h : k < l.length), l[k].size ≤ maxLen
def szT : List ByteArray → Int → Int
  | [], l => l
  | x :: r, l => if l < x.size then -1 else szT r (l - x.size)
def szStringSF (f : List ByteArray) (l : Int) : Int := if l < f.length then -1 else szT f (l - f.length)
theorem szT_drop (f : List ByteArray) (k : Nat) (h : k < f.length) (l : Int) : szT (f.drop k) l = if l < f[k].size then -1 else szT (f.drop (k + 1)) (l - f[k].size) := by
  rw [List.drop_eq_getElem_cons h]; rfl

set_option maxRecDepth 100000 in
theorem szStringS_any (f : List ByteArray) (A : Option Addr) (c : Nat) (l : Int) (w : World) (hf : StrsIn w A f) (ho : StrsOk f) (hn : f.length ≤ maxLen) (h1 : 0 ≤ l) (h2 : l ≤ 1048576) :
    Calls Tryd.prog 40 #[.slice A f.length c, .int .i64 l] w fun e w' => e = .returned (.int .i64 (szStringSF f l)) ∧ Below w.heap.size w w' := by
  unfold maxLen at hn
  have HO := Lib.hid ho; clear ho
  have HF := Lib.hid hf; clear hf
  by_cases h : l < f.length
  · go_enter Tryd.func40, Tryd.ntmps40
    have h' : l - (f.length : Int) < 0 := by omega
    go_wp2
    go_ret
    exact ⟨ret_int (by unfold szStringSF; rw [if_pos h]), Below.refl _ _⟩
  · have hd : szStringSF f l = szT (f.drop 0) (l - f.length) := by unfold szStringSF; rw [if_neg h]; rfl
    have HD := Lib.hid hd; clear hd
    go_enter Tryd.func40, Tryd.ntmps40
    have h' : ¬ l - (f.length : Int) < 0 := by omega
    go_wp2
    go_loopw [1, 5] (fun t i wr => ∃ (k : Nat) (L : Int), k ≤ f.length ∧ i = .int .i64 k ∧ t = .int .i64 L ∧ 0 ≤ L ∧ L ≤ 1048576 ∧ szStringSF f l = szT (f.drop k) L ∧ Below w.heap.size w wr) (fun _ i _ => f.length - (intOf i).toNat)
    case atStart => exact ⟨0, _, Nat.zero_le _, rfl, rfl, by omega, by omega, HD.out, Below.refl _ _⟩
    case round =>
      obtain ⟨k, L, hk, rfl, rfl, hL1, hL2, hs, hb⟩ := hrel
      have HS := Lib.hid hs; clear hs
      by_cases hlt : k < f.length
      · obtain ⟨b, off, rfl, hbl, hc⟩ := HF.out (by omega)
        have hc0 := hc k hlt
        clear hc
        rw [← hb.cell (p := ⟨b, off + k, none⟩) hbl] at hc0
        have hsz := szT_drop f k hlt L
        have HZ := Lib.hid hsz; clear hsz
        have hok := HO.out k hlt
        unfold maxLen at hok
        by_cases hl : L < (f[k].size : Int)
        · have hl' : L - (f[k].size : Int) < 0 := by omega
          go_wp2
          go_ret
          exact ⟨ret_int (by rw [HS.out, HZ.out, if_pos hl]), hb⟩
        · have hl' : ¬ L - (f[k].size : Int) < 0 := by omega
          go_wp2
          go_roundw
          case rel => exact ⟨k + 1, _, by omega, by go_num, rfl, by omega, by omega, by rw [HS.out, HZ.out, if_neg (by omega)], hb⟩
          case measure => simp [intOf]; omega
      · obtain rfl : k = f.length := by omega
        go_wp2
        go_ret
        exact ⟨ret_int (by rw [HS.out, List.drop_length]; rfl), hb⟩

theorem szStrs_len (f : List ByteArray) (l : Int) (h2 : l ≤ 1048576) (h : 0 ≤ szStringSF f l) : f.length ≤ 1048576 := by
  unfold szStringSF at h
  split at h <;> omega

theorem infoStr : (Tryd.prog.info? 9).map (fun i => (i.zero, i.size, i.bytes)) = some (some (.string .empty), 1, 16) := by kernel_rfl
theorem run_makeStr (n : Nat) (hn : n ≤ 1048576) (w : World) :
    (Instr.makeSlice 23 (.int .i64 (n : Int)) (.int .i64 (n : Int))).run Tryd.prog w = .ok (.slice (some ⟨w.heap.size, 0, none⟩) n n) (w.alloc (.cells (madeCells #[.string .empty] (n * 1)) 9)) := by
  obtain ⟨i0, hi, hz0, hz1, hz2⟩ := info_parts infoStr
  have h := run_make (P := Tryd.prog) w 23 9 i0 _ Tryd.underlying23 hi hz0 .i64 .i64 (n : Int) (n : Int) (by omega) (Int.le_refl _) (by rw [hz2]; omega) (by omega)
  rw [hz1, Int.toNat_natCast] at h
  exact h
theorem strs_of_marked {w : World} {b : Nat} {e : TypeId} {l : List ByteArray} (h : Marked w b e l.length (strs l)) : StrsIn w (some ⟨b, 0, none⟩) l := by
  intro hn
  obtain ⟨cur, h1, h2, h3⟩ := h
  refine ⟨b, 0, rfl, lt_of_heap h1, fun k hk => ?_⟩
  rw [cell_of_heap h1]
  have e : cur.toList = strs l := by
    rw [List.take_of_length_le (by simp [strs, h2])] at h3
    exact h3
  rw [← Array.getElem?_toList, e]
  simp [strs, hk]

set_option maxRecDepth 100000 in
theorem toStringS_any (f : List ByteArray) (A : Option Addr) (c : Nat) (w : World) (hf : StrsIn w A f) (hn : f.length ≤ 1048576) :
    Calls Tryd.prog 41 #[.slice A f.length c] w fun e w' => e = .returned (.slice (some ⟨w.heap.size, 0, none⟩) f.length f.length) ∧ Below w.heap.size w w' ∧ StrsIn w' (some ⟨w.heap.size, 0, none⟩) f := by
  have HF := Lib.hid hf; clear hf
  have hmk := run_makeStr f.length hn
  have hst : Marked (w.alloc (.cells (madeCells #[.string .empty] (f.length * 1)) 9)) w.heap.size 9 f.length (strs (f.take 0)) := ⟨_, heap_new _ _, by rw [size_madeCells]; omega, by simp [strs]⟩
  generalize hz : madeCells #[.string .empty] (f.length * 1) = cs0 at *
  go_enter Tryd.func41, Tryd.ntmps41
  have HST := Lib.hid hst; clear hst hz
  go_wp2
  go_loopw [4] (fun i wr => ∃ (k : Nat), k ≤ f.length ∧ i = .int .i64 k ∧ Marked wr w.heap.size 9 f.length (strs (f.take k)) ∧ Below w.heap.size w wr) (fun i _ => f.length - (intOf i).toNat)
  case atStart => exact ⟨0, Nat.zero_le _, rfl, HST.out, (Below.refl _ _).alloc (Nat.le_refl _) _⟩
  case round =>
    obtain ⟨k, hk, rfl, hp, hb⟩ := hrel
    clear hmk
    by_cases hlt : k < f.length
    · obtain ⟨b, off, rfl, hbl, hc⟩ := HF.out (by omega)
      have hc0 := hc k hlt
      clear hc
      rw [← hb.cell (p := ⟨b, off + k, none⟩) hbl] at hc0
      obtain ⟨⟨u0, hu0⟩, hf0⟩ := hp.at_ hlt
      have hl : (strs (f.take k)).length = k := by simp [strs]; omega
      have hst := hp.step (by rw [hl]; omega) (.string f[k])
      rw [hl] at hst
      have HP : Hid (Marked (wr.setCell ⟨w.heap.size, k, none⟩ (.string f[k])) w.heap.size 9 f.length (strs (f.take (k + 1)))) := by
        rw [List.take_succ_eq_append_getElem hlt]; show Marked _ _ _ _ (List.map _ _); rw [List.map_append]; exact hst
      have HB := Lib.hid (hb.setCell (p := ⟨w.heap.size, k, none⟩) (Nat.le_refl _) (.string f[k]))
      clear hb hp hl hst
      go_wp2
      go_roundw
      case rel => exact ⟨k + 1, by omega, by go_num, HP.out, HB.out⟩
      case measure => simp [intOf]; omega
    · obtain rfl : k = f.length := by omega
      go_wp2
      go_ret
      exact ⟨rfl, hb, by rw [List.take_length] at hp; exact strs_of_marked hp⟩

/-- The texts are a list of words. -/
def wordsB (l : List ByteArray) : Bool := decide ((l.length : Int) ≤ 40) && l.all isWordF
theorem words_step {l : List ByteArray} {k : Nat} (h : k < l.length) (hs : (l.take k).all isWordF = true) (hk : isWordF l[k] = true) : (l.take (k + 1)).all isWordF = true := by
  rw [List.take_succ_eq_append_getElem h, List.all_append, hs, Bool.true_and, List.all_cons, hk]; rfl
theorem words_no {l : List ByteArray} {k : Nat} (h : k < l.length) (hk : isWordF l[k] = false) : wordsB l = false := by
  unfold wordsB
  rw [Bool.and_eq_false_iff]
  refine .inr ?_
  rw [List.all_eq_false]
  exact ⟨l[k], List.getElem_mem h, by simp [hk]⟩

theorem tyWord_is (s : ByteArray) (b : Bool) (w : World) (hs : s.size ≤ maxLen) (h : Hid (isWordF s = b)) :
    Calls Tryd.prog 69 #[.string s] w fun e w' => e = .returned (.bool b) ∧ w = w' := by
  have := tyWord_any s w hs; rw [h.out] at this; exact this
theorem isWord_is (s : ByteArray) (b : Bool) (w : World) (hs : s.size ≤ maxLen) (h : Hid (isWordF s = b)) :
    Calls Tryd.prog 66 #[.string s] w fun e w' => e = .returned (.bool b) ∧ Below w.heap.size w w' := by
  have := isWord_any s w hs; rw [h.out] at this; exact this

end Go.Proofs.YtcbhhbcfnaekpaaDoor
