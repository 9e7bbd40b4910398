/-
  The contracts of the small checks on numbers: spec.l1All, spec.l1Most, spec.biStock, impl.isStockOfTypes; of laws.toIntS: each answers what the plain words here say and changes nothing that was there.
-/
import Derived.Test.YtpbkeagpipipmaaBil
import Derived.Laws.OwnMore
namespace Go.Proofs.Ytpbkeagpipipmaa.S1
open Go.RowKit
set_option linter.unusedVariables false

def inB (lo hi a : Int) : Bool := decide (lo ≤ a) && decide (a ≤ hi)
def allB (lo hi : Int) (l : List Int) : Bool := l.all (inB lo hi)
theorem allB_snoc (lo hi : Int) (l : List Int) (a : Int) : allB lo hi (l ++ [a]) = (allB lo hi l && inB lo hi a) := by simp [allB]
theorem allB_no {lo hi : Int} {l : List Int} {k : Nat} (h : k < l.length) (hf : inB lo hi l[k] = false) : allB lo hi l = false := by
  unfold allB
  rw [List.all_eq_false]
  exact ⟨l[k], List.getElem_mem h, by simp [hf]⟩
theorem allB_at {lo hi : Int} {l : List Int} {k : Nat} (h : k < l.length) (ha : allB lo hi l = true) : lo ≤ l[k] ∧ l[k] ≤ hi := by
  have := List.all_eq_true.1 ha _ (List.getElem_mem h)
  simpa [inB] using this
theorem stockB_eq (f : List (ByteArray × Int)) (st : List Int) : stockB f st = (decide (st.length = f.length) && allB 0 100000 st) := rfl
theorem stock_parts {f : List (ByteArray × Int)} {st : List Int} (h : stockB f st = true) : st.length = f.length ∧ allB 0 100000 st = true := by
  rw [stockB_eq] at h
  simpa [Bool.and_eq_true] using h
theorem in_is (a b c : Int) (B : Bool) (w : World) (h : Hid (inB b c a = B)) :
    Calls Try.prog 75 #[.int .i64 a, .int .i64 b, .int .i64 c] w fun e w' => e = .returned (.bool B) ∧ w = w' := by
  have := in_any a b c w; rw [← h.out]; exact this

theorem l1All_any (l : List Int) (A : Option Addr) (c : Nat) (lo hi : Int) (w : World) (hf : IntsIn w A l) (hn : l.length ≤ maxLen) :
    Calls Try.prog 84 #[.slice A l.length c, .int .i64 lo, .int .i64 hi] w fun e w' => e = .returned (.bool (allB lo hi l)) ∧ w = w' := by
  unfold maxLen at hn
  have HF := Lib.hid hf; clear hf
  go_enter Try.func84, Try.ntmps84
  go_wp2
  go_loop [11] (fun i => ∃ (k : Nat), k ≤ l.length ∧ i = .int .i64 k ∧ allB lo hi (l.take k) = true) (fun i => l.length - (intOf i).toNat)
  case atStart => exact ⟨0, Nat.zero_le _, rfl, rfl⟩
  case round =>
    obtain ⟨k, hk, rfl, hs⟩ := hrel
    have HS := Lib.hid hs; clear hs
    by_cases hlt : k < l.length
    · obtain ⟨b, off, rfl, hbl, hc⟩ := HF.out (by omega)
      have hc0 := hc k hlt
      clear hc
      have hst : allB lo hi (l.take (k + 1)) = inB lo hi l[k] := by rw [List.take_succ_eq_append_getElem hlt, allB_snoc, HS.out]; rfl
      have hno := allB_no (lo := lo) (hi := hi) hlt
      have HST := Lib.hid hst; have HNO := Lib.hid hno
      clear hst hno
      cases hin : inB lo hi l[k]
      · have H := Lib.hid hin; clear hin
        go_wp2_with fail
        refine (in_is _ _ _ _ _ H).mono ?_
        rintro e w' ⟨rfl, rfl⟩
        go_wp2
        go_ret
        exact ⟨ret_bool (HNO.out H.out).symm, rfl⟩
      · have H := Lib.hid hin; clear hin
        go_wp2_with fail
        refine (in_is _ _ _ _ _ H).mono ?_
        rintro e w' ⟨rfl, rfl⟩
        go_wp2
        go_round
        case rel => exact ⟨k + 1, by omega, by go_num, by rw [HST.out, H.out]⟩
        case measure => simp [intOf]; omega
    · obtain rfl : k = l.length := by omega
      go_wp2
      go_ret
      exact ⟨ret_bool (by have e := HS.out; rw [List.take_length] at e; exact e.symm), rfl⟩

theorem run_makeInt (n : Nat) (hn : n ≤ 1048576) (w : World) :
    (Instr.makeSlice 23 (.int .i64 (n : Int)) (.int .i64 (n : Int))).run Try.prog w = .ok (.slice (some ⟨w.heap.size, 0, none⟩) n n) (w.alloc (.cells (madeCells #[.int .i64 0] (n * 1)) 3)) := by
  obtain ⟨i0, hi, hz0, hz1, hz2⟩ := info_parts info3
  have h := run_make (P := Try.prog) w 23 3 i0 _ Try.underlying23 hi hz0 .i64 .i64 (n : Int) (n : Int) (by omega) (Int.le_refl _) (by rw [hz2]; omega) (by omega)
  rw [hz1, Int.toNat_natCast] at h
  exact h
theorem made_own (n : Nat) (w : World) : Own (w.alloc (.cells (madeCells #[.int .i64 0] (n * 1)) 3)) w.heap.size 3 (intsZ (cntL n [])) := by
  unfold Own
  rw [heap_new, cntL_nil, Nat.mul_one, ← toList_madeCells_one]
theorem ints_of_marked {w : World} {b : Nat} {e : TypeId} {l : List Int} (h : Marked w b e l.length (intsZ l)) : Own w b e (intsZ l) := by
  obtain ⟨cur, h1, h2, h3⟩ := h
  have : cur = (intsZ l).toArray := by
    apply Array.ext'
    rw [← h3, List.take_of_length_le (by rw [intsZ_len]; simpa using Nat.le_of_eq h2)]
  subst this
  exact h1

set_option maxRecDepth 100000 in
theorem toIntS_any (f : List Int) (A : Option Addr) (c : Nat) (w : World) (hf : IntsIn w A f) (hn : f.length ≤ 1048576) :
    Calls Try.prog 41 #[.slice A f.length c] w fun e w' => e = .returned (.slice (some ⟨w.heap.size, 0, none⟩) f.length f.length) ∧ Below w.heap.size w w' ∧ Own w' w.heap.size 3 (intsZ f) := by
  have HF := Lib.hid hf; clear hf
  have hmk := run_makeInt f.length hn
  have hst : Marked (w.alloc (.cells (madeCells #[.int .i64 0] (f.length * 1)) 3)) w.heap.size 3 f.length (intsZ (f.take 0)) := ⟨_, heap_new _ _, by rw [size_madeCells]; omega, by simp [intsZ]⟩
  generalize hz : madeCells #[.int .i64 0] (f.length * 1) = cs0 at *
  go_enter Try.func41, Try.ntmps41
  have HST := Lib.hid hst; clear hst hz
  go_wp2
  go_loopw [4] (fun i wr => ∃ (k : Nat), k ≤ f.length ∧ i = .int .i64 k ∧ Marked wr w.heap.size 3 f.length (intsZ (f.take k)) ∧ Below w.heap.size w wr) (fun i _ => f.length - (intOf i).toNat)
  case atStart => exact ⟨0, Nat.zero_le _, rfl, HST.out, (Below.refl _ _).alloc (Nat.le_refl _) _⟩
  case round =>
    obtain ⟨k, hk, rfl, hp, hb⟩ := hrel
    clear hmk
    by_cases hlt : k < f.length
    · obtain ⟨b, off, rfl, hbl, hc⟩ := HF.out (by omega)
      have hc0 := hc k hlt
      clear hc
      rw [← hb.cell (p := ⟨b, off + k, none⟩) hbl] at hc0
      obtain ⟨⟨u0, hu0⟩, hf0⟩ := hp.at_ hlt
      have hl : (intsZ (f.take k)).length = k := by simp [intsZ]; omega
      have hst := hp.step (by rw [hl]; omega) (.int .i64 f[k])
      rw [hl] at hst
      have HP : Hid (Marked (wr.setCell ⟨w.heap.size, k, none⟩ (.int .i64 f[k])) w.heap.size 3 f.length (intsZ (f.take (k + 1)))) := by
        rw [List.take_succ_eq_append_getElem hlt, intsZ_snoc]; exact Lib.hid hst
      have HB := Lib.hid (hb.setCell (p := ⟨w.heap.size, k, none⟩) (Nat.le_refl _) (.int .i64 f[k]))
      clear hb hp hl hst
      go_wp2
      go_roundw
      case rel => exact ⟨k + 1, by omega, by go_num, HP.out, HB.out⟩
      case measure => simp [intOf]; omega
    · obtain rfl : k = f.length := by omega
      go_wp2
      go_ret
      exact ⟨rfl, hb, by rw [List.take_length] at hp; exact ints_of_marked hp⟩
end Go.Proofs.Ytpbkeagpipipmaa.S1
