/-
  What the laws hand over, as rows of the call's own: copies of slices of strings, of sorts, of ints.
-/
import Derived.Test.YtcbhhbcfnaekpaaDoorChk
import Derived.Test.YtcbhhbcfnaekpaaDoorHeld
namespace Go.Proofs.YtcbhhbcfnaekpaaDoor
open Go.RowKit
set_option linter.unusedVariables false

theorem strs_len (l : List ByteArray) : (strs l).length = l.length := by simp [strs]
theorem strs_own {w : World} {b : Nat} {e : TypeId} {l : List ByteArray} (h : Marked w b e l.length (strs l)) : Own w b e (strs l) := by
  obtain ⟨cur, h1, h2, h3⟩ := h
  have : cur = (strs l).toArray := by
    apply Array.ext'
    rw [← h3, List.take_of_length_le (by rw [strs_len]; simpa using Nat.le_of_eq h2)]
  subst this
  exact h1
set_option maxRecDepth 100000 in
theorem toStrOwn_any (f : List ByteArray) (A : Option Addr) (c : Nat) (w : World) (hf : StrsIn w A f) (hn : f.length ≤ 1048576) :
    Calls Tryd.prog 41 #[.slice A f.length c] w fun e w' => e = .returned (.slice (some ⟨w.heap.size, 0, none⟩) f.length f.length) ∧ Below w.heap.size w w' ∧ w'.ownsRow 0 9 1 (.slice (some ⟨w.heap.size, 0, none⟩) f.length f.length) f.length (strs f) := by
  have HF := Lib.hid hf; clear hf
  have hmk := run_makeStr f.length hn
  have hst : Marked (w.alloc (.cells (madeCells #[.string .empty] (f.length * 1)) 9)) w.heap.size 9 f.length (strs (f.take 0)) := ⟨_, heap_new _ _, by rw [size_madeCells]; omega, by simp [strs]⟩
  generalize hz : madeCells #[.string .empty] (f.length * 1) = cs0 at *
  go_enter Tryd.func41, Tryd.ntmps41
  have HST := Lib.hid hst; clear hst hz
  go_wp2
  go_loopw [4] (fun i wr => ∃ (k : Nat), k ≤ f.length ∧ i = .int .i64 k ∧ Marked wr w.heap.size 9 f.length (strs (f.take k)) ∧ Below w.heap.size w wr) (fun i _ => f.length - (intOf i).toNat)
  case atStart => exact ⟨0, Nat.zero_le _, rfl, HST.out, (Below.refl _ _).alloc (Nat.le_refl _) _⟩
  case round =>
    obtain ⟨k, hk, rfl, hp, hb⟩ := hrel
    clear hmk
    by_cases hlt : k < f.length
    · obtain ⟨b, off, rfl, hbl, hc⟩ := HF.out (by omega)
      have hc0 := hc k hlt
      clear hc
      rw [← hb.cell (p := ⟨b, off + k, none⟩) hbl] at hc0
      obtain ⟨⟨u0, hu0⟩, hf0⟩ := hp.at_ hlt
      have hl : (strs (f.take k)).length = k := by simp [strs]; omega
      have hst := hp.step (by rw [hl]; omega) (.string f[k])
      rw [hl] at hst
      have HP : Hid (Marked (wr.setCell ⟨w.heap.size, k, none⟩ (.string f[k])) w.heap.size 9 f.length (strs (f.take (k + 1)))) := by
        rw [List.take_succ_eq_append_getElem hlt]; show Marked _ _ _ _ (List.map _ _); rw [List.map_append]; exact hst
      have HB := Lib.hid (hb.setCell (p := ⟨w.heap.size, k, none⟩) (Nat.le_refl _) (.string f[k]))
      clear hb hp hl hst
      go_wp2
      go_roundw
      case rel => exact ⟨k + 1, by omega, by go_num, HP.out, HB.out⟩
      case measure => simp [intOf]; omega
    · obtain rfl : k = f.length := by omega
      go_wp2
      go_ret
      refine ⟨rfl, hb, ?_⟩
      rw [List.take_length] at hp
      have h := (strs_own hp).owns (base := 0) (Nat.zero_le _) (by rw [strs_len]; unfold maxLen; omega)
      rwa [strs_len] at h
/-- The block of a row that was made in world u lies below a later row's. -/
theorem row_lt {w : World} {b size n m : Nat} {e : TypeId} {xs : List Value} (h : w.ownsRow 0 e size (.slice (some ⟨b, 0, none⟩) m m) n xs) : b < w.heap.size := own_block_lt h rfl
theorem szF_range : ∀ (f : List (ByteArray × Int)) (l : Int), 0 ≤ l → szF f l ≤ l
  | [], l, _ => Int.le_refl l
  | x :: r, l, h => by
    unfold szF
    split
    · omega
    · have := szF_range r (l - x.1.size) (by omega)
      omega
theorem sz_range (f : List (ByteArray × Int)) (l : Int) (h : 0 ≤ l) : szSortSF f l ≤ l := by
  unfold szSortSF
  split
  · omega
  · have := szF_range f (l - f.length) (by omega)
    omega
end Go.Proofs.YtcbhhbcfnaekpaaDoor
