/-
  What the laws hand over, as rows of the call's own: copies of slices of ints.
-/
import Derived.Test.YtljakcfdjcjdbaaPb
import Derived.Test.YtljakcfdjcjdbaaIntsE
import Derived.Test.YtljakcfdjcjdbaaOpenG
namespace Go.Proofs.Ytljakcfdjcjdbaa
open Go.RowKit
set_option linter.unusedVariables false

theorem Own.ownsRow {w : World} {b : Nat} {t : TypeId} {cs : List Value} (h : Own w b t cs) {size n : Nat} (hl : cs.length = n * size) (hn : n ≤ maxLen) : w.ownsRow 0 t size (.slice (some ⟨b, 0, none⟩) n n) n cs :=
  ⟨hl, .inr ⟨b, n, cs.toArray, rfl, Nat.zero_le _, h, Nat.le_refl _, hn, by simpa using hl, by rw [← hl]; simp⟩⟩
theorem row_lt {w : World} {b size n m : Nat} {e : TypeId} {xs : List Value} (h : w.ownsRow 0 e size (.slice (some ⟨b, 0, none⟩) m m) n xs) : b < w.heap.size := own_block_lt h rfl
theorem info3 : (Try.prog.info? 3).map (fun i => (i.zero, i.size, i.bytes)) = some (some (.int .i64 0), 1, 8) := by kernel_rfl
theorem run_makeInt (n : Nat) (hn : n ≤ 1048576) (w : World) :
    (Instr.makeSlice 31 (.int .i64 (n : Int)) (.int .i64 (n : Int))).run Try.prog w = .ok (.slice (some ⟨w.heap.size, 0, none⟩) n n) (w.alloc (.cells (madeCells #[.int .i64 0] (n * 1)) 3)) := by
  obtain ⟨i0, hi, hz0, hz1, hz2⟩ := info_parts info3
  have h := run_make (P := Try.prog) w 31 3 i0 _ Try.underlying31 hi hz0 .i64 .i64 (n : Int) (n : Int) (by omega) (Int.le_refl _) (by rw [hz2]; omega) (by omega)
  rw [hz1, Int.toNat_natCast] at h
  exact h
set_option maxRecDepth 100000 in
theorem toIntS_any (f : List Int) (A : Option Addr) (c : Nat) (w : World) (hf : IntsIn w A f) (hn : f.length ≤ 1048576) :
    Calls Try.prog 28 #[.slice A f.length c] w fun e w' => e = .returned (.slice (some ⟨w.heap.size, 0, none⟩) f.length f.length) ∧ Below w.heap.size w w' ∧ Own w' w.heap.size 3 (intsZ f) := by
  have HF := Lib.hid hf; clear hf
  have hmk := run_makeInt f.length hn
  have hst : Marked (w.alloc (.cells (madeCells #[.int .i64 0] (f.length * 1)) 3)) w.heap.size 3 f.length (intsZ (f.take 0)) := ⟨_, heap_new _ _, by rw [size_madeCells]; omega, by simp [intsZ]⟩
  generalize hz : madeCells #[.int .i64 0] (f.length * 1) = cs0 at *
  go_enter Try.func28, Try.ntmps28
  have HST := Lib.hid hst; clear hst hz
  go_wp2
  go_loopw [4] (fun i wr => ∃ (k : Nat), k ≤ f.length ∧ i = .int .i64 k ∧ Marked wr w.heap.size 3 f.length (intsZ (f.take k)) ∧ Below w.heap.size w wr) (fun i _ => f.length - (intOf i).toNat)
  case atStart => exact ⟨0, Nat.zero_le _, rfl, HST.out, (Below.refl _ _).alloc (Nat.le_refl _) _⟩
  case round =>
    obtain ⟨k, hk, rfl, hp, hb⟩ := hrel
    clear hmk
    by_cases hlt : k < f.length
    · obtain ⟨b, off, rfl, hbl, hc⟩ := HF.out (by omega)
      have hc0 := hc k hlt
      clear hc
      rw [← hb.cell (p := ⟨b, off + k, none⟩) hbl] at hc0
      obtain ⟨⟨u0, hu0⟩, hf0⟩ := hp.at_ hlt
      have hl : (intsZ (f.take k)).length = k := by simp [intsZ]; omega
      have hst := hp.step (by rw [hl]; omega) (.int .i64 f[k])
      rw [hl] at hst
      have HP : Hid (Marked (wr.setCell ⟨w.heap.size, k, none⟩ (.int .i64 f[k])) w.heap.size 3 f.length (intsZ (f.take (k + 1)))) := by
        rw [List.take_succ_eq_append_getElem hlt, intsZ_snoc]; exact Lib.hid hst
      have HB := Lib.hid (hb.setCell (p := ⟨w.heap.size, k, none⟩) (Nat.le_refl _) (.int .i64 f[k]))
      clear hb hp hl hst
      go_wp2
      go_roundw
      case rel => exact ⟨k + 1, by omega, by go_num, HP.out, HB.out⟩
      case measure => simp [intOf]; omega
    · obtain rfl : k = f.length := by omega
      go_wp2
      go_ret
      exact ⟨rfl, hb, by rw [List.take_length] at hp; exact by rw [← intsZ_len] at hp; exact hp.done⟩
theorem toIntOwn_any (f : List Int) (A : Option Addr) (c : Nat) (w : World) (hf : IntsIn w A f) (hn : f.length ≤ 1048576) :
    Calls Try.prog 28 #[.slice A f.length c] w fun e w' => e = .returned (.slice (some ⟨w.heap.size, 0, none⟩) f.length f.length) ∧ Below w.heap.size w w' ∧ w'.ownsRow 0 3 1 (.slice (some ⟨w.heap.size, 0, none⟩) f.length f.length) f.length (intsZ f) :=
  (toIntS_any f A c w hf hn).mono fun _ _ ⟨h1, h2, h3⟩ => ⟨h1, h2, h3.ownsRow (by rw [intsZ_len]; omega) (by unfold maxLen; omega)⟩

/-- Block b has n cells, none of them frozen. -/
theorem own_noneI (w : World) {g base : Nat} {e : TypeId} (h : w.heap[g]? = some (.cells #[] e (0, 0))) (hb : base ≤ g) : w.ownsRow base e 1 (.slice (some ⟨g, 0, none⟩) 0 0) 0 [] :=
  ⟨rfl, .inr ⟨g, 0, #[], rfl, hb, h, Nat.le_refl _, Nat.zero_le _, rfl, rfl⟩⟩
end Go.Proofs.Ytljakcfdjcjdbaa
