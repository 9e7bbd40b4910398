/-
  What the laws hand over, as rows of the call's own: copies of slices of castings and of ints; the marks of castings; an argument that is a slice of ints, opened.
-/
import Derived.Test.YtpocghcdfpcedaaKb
import Derived.Test.YtpocghcdfpcedaaIntsE
import Derived.Test.YtpocghcdfpcedaaOpenG
namespace Go.Proofs.Ytpocghcdfpcedaa
open Go.RowKit
set_option linter.unusedVariables false

theorem Own.ownsRow {w : World} {b : Nat} {t : TypeId} {cs : List Value} (h : Own w b t cs) {size n : Nat} (hl : cs.length = n * size) (hn : n ≤ maxLen) : w.ownsRow 0 t size (.slice (some ⟨b, 0, none⟩) n n) n cs :=
  ⟨hl, .inr ⟨b, n, cs.toArray, rfl, Nat.zero_le _, h, Nat.le_refl _, hn, by simpa using hl, by rw [← hl]; simp⟩⟩
theorem row_lt {w : World} {b size n m : Nat} {e : TypeId} {xs : List Value} (h : w.ownsRow 0 e size (.slice (some ⟨b, 0, none⟩) m m) n xs) : b < w.heap.size := own_block_lt h rfl
theorem own_ca {w : World} {base n : Nat} {e : TypeId} {v : Value} {l : List Ca} (h : w.ownsRow base e 2 v n (flatCa l)) : ∃ A c, v = .slice A l.length c ∧ n = l.length ∧ CasIn w A l := by
  have hn : n = l.length := by have := h.1; rw [flatCa_len] at this; omega
  subst hn
  rcases h.2 with ⟨rfl, h0⟩ | ⟨g, cap, cur, rfl, hg, hh, h1, h2, h3, h4⟩
  · exact ⟨none, 0, by rw [h0], rfl, fun h => absurd h (by omega)⟩
  · refine ⟨_, _, rfl, rfl, fun _ => ⟨g, 0, rfl, lt_of_heap hh, fun k hk => ?_⟩⟩
    have hgt := flatCa_get l k hk
    rw [Nat.zero_add, h.cellAt (k * 2) (by omega), h.cellAt (k * 2 + 1) (by omega)]
    exact hgt
theorem own_in_ca {w : World} {base n m c : Nat} {e : TypeId} {A : Option Addr} {l : List Ca} (h : w.ownsRow base e 2 (.slice A m c) n (flatCa l)) : CasIn w A l := by
  obtain ⟨A', c', hv, _, hi⟩ := own_ca h
  injection hv with h1
  subst h1
  exact hi
theorem toCaOwn_any (f : List Ca) (A : Option Addr) (c : Nat) (w : World) (hf : CasIn w A f) (hn : f.length ≤ 1048576) :
    Calls Try.prog 16 #[.slice A f.length c] w fun e w' => e = .returned (.slice (some ⟨w.heap.size, 0, none⟩) f.length f.length) ∧ Below w.heap.size w w' ∧ w'.ownsRow 0 39 2 (.slice (some ⟨w.heap.size, 0, none⟩) f.length f.length) f.length (flatCa f) :=
  (toCastingS_any f A c w hf hn).mono fun _ _ ⟨h1, h2, h3⟩ => ⟨h1, h2, h3.ownsRow (by rw [flatCa_len]; omega) (by unfold maxLen; omega)⟩
theorem info3 : (Try.prog.info? 3).map (fun i => (i.zero, i.size, i.bytes)) = some (some (.int .i64 0), 1, 8) := by kernel_rfl
theorem run_makeInt (n : Nat) (hn : n ≤ 1048576) (w : World) :
    (Instr.makeSlice 42 (.int .i64 (n : Int)) (.int .i64 (n : Int))).run Try.prog w = .ok (.slice (some ⟨w.heap.size, 0, none⟩) n n) (w.alloc (.cells (madeCells #[.int .i64 0] (n * 1)) 3)) := by
  obtain ⟨i0, hi, hz0, hz1, hz2⟩ := info_parts info3
  have h := run_make (P := Try.prog) w 42 3 i0 _ Try.underlying42 hi hz0 .i64 .i64 (n : Int) (n : Int) (by omega) (Int.le_refl _) (by rw [hz2]; omega) (by omega)
  rw [hz1, Int.toNat_natCast] at h
  exact h
set_option maxRecDepth 100000 in
theorem toIntS_any (f : List Int) (A : Option Addr) (c : Nat) (w : World) (hf : IntsIn w A f) (hn : f.length ≤ 1048576) :
    Calls Try.prog 26 #[.slice A f.length c] w fun e w' => e = .returned (.slice (some ⟨w.heap.size, 0, none⟩) f.length f.length) ∧ Below w.heap.size w w' ∧ Own w' w.heap.size 3 (intsZ f) := by
  have HF := Lib.hid hf; clear hf
  have hmk := run_makeInt f.length hn
  have hst : Marked (w.alloc (.cells (madeCells #[.int .i64 0] (f.length * 1)) 3)) w.heap.size 3 f.length (intsZ (f.take 0)) := ⟨_, heap_new _ _, by rw [size_madeCells]; omega, by simp [intsZ]⟩
  generalize hz : madeCells #[.int .i64 0] (f.length * 1) = cs0 at *
  go_enter Try.func26, Try.ntmps26
  have HST := Lib.hid hst; clear hst hz
  go_wp2
  go_loopw [4] (fun i wr => ∃ (k : Nat), k ≤ f.length ∧ i = .int .i64 k ∧ Marked wr w.heap.size 3 f.length (intsZ (f.take k)) ∧ Below w.heap.size w wr) (fun i _ => f.length - (intOf i).toNat)
  case atStart => exact ⟨0, Nat.zero_le _, rfl, HST.out, (Below.refl _ _).alloc (Nat.le_refl _) _⟩
  case round =>
    obtain ⟨k, hk, rfl, hp, hb⟩ := hrel
    clear hmk
    by_cases hlt : k < f.length
    · obtain ⟨b, off, rfl, hbl, hc⟩ := HF.out (by omega)
      have hc0 := hc k hlt
      clear hc
      rw [← hb.cell (p := ⟨b, off + k, none⟩) hbl] at hc0
      obtain ⟨⟨u0, hu0⟩, hf0⟩ := hp.at_ hlt
      have hl : (intsZ (f.take k)).length = k := by simp [intsZ]; omega
      have hst := hp.step (by rw [hl]; omega) (.int .i64 f[k])
      rw [hl] at hst
      have HP : Hid (Marked (wr.setCell ⟨w.heap.size, k, none⟩ (.int .i64 f[k])) w.heap.size 3 f.length (intsZ (f.take (k + 1)))) := by
        rw [List.take_succ_eq_append_getElem hlt, intsZ_snoc]; exact Lib.hid hst
      have HB := Lib.hid (hb.setCell (p := ⟨w.heap.size, k, none⟩) (Nat.le_refl _) (.int .i64 f[k]))
      clear hb hp hl hst
      go_wp2
      go_roundw
      case rel => exact ⟨k + 1, by omega, by go_num, HP.out, HB.out⟩
      case measure => simp [intOf]; omega
    · obtain rfl : k = f.length := by omega
      go_wp2
      go_ret
      exact ⟨rfl, hb, by rw [List.take_length] at hp; exact by rw [← intsZ_len] at hp; exact hp.done⟩
theorem toIntOwn_any (f : List Int) (A : Option Addr) (c : Nat) (w : World) (hf : IntsIn w A f) (hn : f.length ≤ 1048576) :
    Calls Try.prog 26 #[.slice A f.length c] w fun e w' => e = .returned (.slice (some ⟨w.heap.size, 0, none⟩) f.length f.length) ∧ Below w.heap.size w w' ∧ w'.ownsRow 0 3 1 (.slice (some ⟨w.heap.size, 0, none⟩) f.length f.length) f.length (intsZ f) :=
  (toIntS_any f A c w hf hn).mono fun _ _ ⟨h1, h2, h3⟩ => ⟨h1, h2, h3.ownsRow (by rw [intsZ_len]; omega) (by unfold maxLen; omega)⟩

/-- Block b has n cells, none of them frozen. -/
def HasRow (w : World) (b : Nat) (t : TypeId) (n : Nat) : Prop := ∃ cur : Array Value, w.heap[b]? = some (.cells cur t (0, 0)) ∧ cur.size = n
theorem HasRow.at_ {w : World} {b n j : Nat} {t : TypeId} (h : HasRow w b t n) (hj : j < n) : (∃ u, w.cell? ⟨b, j, none⟩ = some u) ∧ w.frozen? ⟨b, j, none⟩ = false := by
  obtain ⟨cur, h1, h2⟩ := h
  exact ⟨⟨_, (cell_of_heap h1 j).trans (Array.getElem?_eq_getElem (by omega))⟩, free_of_heap h1 j⟩
theorem HasRow.set {w : World} {b n : Nat} {t : TypeId} (h : HasRow w b t n) (j : Nat) (u : Value) : HasRow (w.setCell ⟨b, j, none⟩ u) b t n := by
  obtain ⟨cur, h1, h2⟩ := h
  exact ⟨_, heap_set h1 u, by simpa using h2⟩

set_option maxRecDepth 100000 in
set_option maxHeartbeats 1000000 in
theorem markCaRow_any (k : Int) (n b c m : Nat) (w : World) (h : HasRow w b 39 m) (hm : n * 2 ≤ m) (h0 : 0 ≤ k) (hn : k + 2 * (n : Int) ≤ 16777216) :
    Calls Try.prog 33 #[.slice (some ⟨b, 0, none⟩) n c, .int .i64 k] w fun e w' => e = .returned (.int .i64 (k + 2 * (n : Int))) ∧ w.grownBy w' (some b) := by
  have HH := Lib.hid h; clear h
  go_enter Try.func33, Try.ntmps33
  go_wp2
  go_loopw [1, 5] (fun q i wr => ∃ (j : Nat) (q0 : Int), j ≤ n ∧ i = .int .i64 j ∧ q = .int .i64 q0 ∧ q0 = k + 2 * (j : Int) ∧ HasRow wr b 39 m ∧ w.grownBy wr (some b)) (fun _ i _ => n - (intOf i).toNat)
  case atStart => exact ⟨0, k, Nat.zero_le _, rfl, rfl, by simp, HH.out, World.grownBy.refl _ _⟩
  case round =>
    obtain ⟨j, q0, hj, rfl, rfl, hq, hr, hg⟩ := hrel
    have HQ := Lib.hid hq
    by_cases hlt : j < n
    · have hq1 : q0 + 2 ≤ 16777216 := by omega
      have hq2 : 0 ≤ q0 := by omega
      obtain ⟨⟨u0, e0⟩, f0⟩ := hr.at_ (j := j * 2) (by omega)
      obtain ⟨⟨u1, e1⟩, f1⟩ := hr.at_ (j := j * 2 + 1) (by omega)
      have HG := Lib.hid (grown_set (grown_set hg (j * 2) (.int .i64 q0)) (j * 2 + 1) (.int .i64 (q0 + 1)))
      have HR := Lib.hid ((hr.set (j * 2) (.int .i64 q0)).set (j * 2 + 1) (.int .i64 (q0 + 1)))
      clear hr hg hq
      go_wp2
      go_roundw
      case rel => exact ⟨j + 1, _, by omega, by go_num, rfl, by have := HQ.out; omega, HR.out, HG.out⟩
      case measure => simp [intOf]; omega
    · obtain rfl : j = n := by omega
      subst hq
      go_wp2
      go_ret
      exact ⟨rfl, hg⟩
theorem markCaOwn_any (k : Nat) (n base : Nat) (b : Nat) (xs : List Value) (w : World) (hown : w.ownsRow base 39 2 (.slice (some ⟨b, 0, none⟩) n n) n xs) (hn : k + 2 * n ≤ 16777216) :
    Calls Try.prog 33 #[.slice (some ⟨b, 0, none⟩) n n, .int .i64 (k : Int)] w fun e w' => e = .returned (.int .i64 ((k + 2 * n : Nat) : Int)) ∧ w.grownBy w' (Value.slice (some ⟨b, 0, none⟩) n n).ownBlock := by
  rcases hown.2 with ⟨h, _⟩ | ⟨g, cap, cur, hv, hg, hh, h1, h2, h3, h4⟩
  · cases h
  · injection hv with e1 e2 e3
    have e4 := Option.some.inj e1
    rw [Addr.mk.injEq] at e4
    obtain ⟨rfl, _, _⟩ := e4
    exact (markCaRow_any k n b n _ w ⟨cur, hh, h3⟩ (Nat.mul_le_mul_right _ h1) (by omega) (by omega)).mono fun e w' ⟨h5, h6⟩ => ⟨by rw [h5]; congr 2, h6⟩
theorem own_noneI (w : World) {g base : Nat} {e : TypeId} (h : w.heap[g]? = some (.cells #[] e (0, 0))) (hb : base ≤ g) : w.ownsRow base e 1 (.slice (some ⟨g, 0, none⟩) 0 0) 0 [] :=
  ⟨rfl, .inr ⟨g, 0, #[], rfl, hb, h, Nat.le_refl _, Nat.zero_le _, rfl, rfl⟩⟩
end Go.Proofs.Ytpocghcdfpcedaa
