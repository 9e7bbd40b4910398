/-
  The cursor of the draws: spec.l1Cur.next answers some number from 0 to 255, moves the cursor on, and changes nothing else. (For FnJustified and FnMeasures.)
-/
import Derived.Test.YteagclokobkigaaVr
import Derived.Test.YteagclokobkigaaVb
import Derived.Laws.BitsAllLaws
namespace Go.Proofs.Yteagclokobkigaa
open Go.RowKit
set_option linter.unusedVariables false

/-- The bytes of a slice. -/
def BytesIn (w : World) (A : Option Addr) (l : List UInt8) : Prop :=
  0 < l.length → ∃ b off, A = some ⟨b, off, none⟩ ∧ b < w.heap.size ∧ ∀ k (h : k < l.length), w.cell? ⟨b, off + k, none⟩ = some (.int .u8 (l[k].toNat : Int))
/-- The cursor in block b, on the bytes xs at A, stands at 'at'. -/
def CurAt (w : World) (b : Nat) (A : Option Addr) (c at_ : Nat) (xs : List UInt8) : Prop :=
  ∃ seed : Int, (0 ≤ seed ∧ seed < 18446744073709551616) ∧ w.heap[b]? = some (.cells #[.slice A xs.length c, .int .i64 (at_ : Int), .int .u64 seed] 50 (0, 0))
theorem CurAt.below {w w' : World} {b c at_ : Nat} {A : Option Addr} {xs : List UInt8} (h : CurAt w b A c at_ xs) (hb : Below w.heap.size w w') : CurAt w' b A c at_ xs := by
  obtain ⟨seed, h0, h1⟩ := h
  exact ⟨seed, h0, (hb.block b (lt_of_heap h1)).trans h1⟩

theorem u64_in (x : Int) : 0 ≤ IntKind.u64.wrap x ∧ IntKind.u64.wrap x < 18446744073709551616 := by
  rw [show IntKind.u64.wrap x = x % 18446744073709551616 from by simp [IntKind.wrap, IntKind.bits, IntKind.signed]]
  omega
theorem low_byte (x : Int) (h0 : 0 ≤ x) (h1 : x < 18446744073709551616) : ∃ n : Nat, n ≤ 255 ∧ wrap64 (bits .and .u64 (x / 1099511627776) 255) = (n : Int) := by
  have e : (255 : Int) = ((255 : Nat) : Int) := rfl
  have h := u64_and (x / 1099511627776) 255 (by omega) (by omega) (by omega) (by omega)
  refine ⟨(x / 1099511627776).toNat &&& 255, Nat.and_le_right, ?_⟩
  rw [h]
  have hb : (x / 1099511627776).toNat &&& 255 ≤ 255 := Nat.and_le_right
  show wrap64 (((x / 1099511627776).toNat &&& 255 : Nat) : Int) = _
  generalize (x / 1099511627776).toNat &&& 255 = m at *
  unfold wrap64
  omega
theorem CurAt.set {w : World} {b c at_ : Nat} {A : Option Addr} {xs : List UInt8} (h : CurAt w b A c at_ xs) (sd : Int) (hsd : 0 ≤ sd ∧ sd < 18446744073709551616) : CurAt ((w.setCell ⟨b, 1, none⟩ (.int .i64 ((at_ : Int) + 1))).setCell ⟨b, 2, none⟩ (.int .u64 sd)) b A c (at_ + 1) xs := by
  obtain ⟨seed, h0, h1⟩ := h
  refine ⟨sd, hsd, ?_⟩
  rw [heap_set (heap_set h1 _)]
  simp
theorem CurAt.cells {w : World} {b c at_ : Nat} {A : Option Addr} {xs : List UInt8} (h : CurAt w b A c at_ xs) : b < w.heap.size ∧ w.cell? ⟨b, 0, none⟩ = some (.slice A xs.length c) ∧ w.cell? ⟨b, 1, none⟩ = some (.int .i64 (at_ : Int)) ∧ ∃ seed, (0 ≤ seed ∧ seed < 18446744073709551616) ∧ w.cell? ⟨b, 2, none⟩ = some (.int .u64 seed) := by
  obtain ⟨seed, h0, h1⟩ := h
  refine ⟨lt_of_heap h1, ?_, ?_, seed, h0, ?_⟩
  · rw [cell_of_heap h1]; rfl
  · rw [cell_of_heap h1]; rfl
  · rw [cell_of_heap h1]; rfl

set_option maxRecDepth 100000 in
theorem next_any (b c at_ : Nat) (A : Option Addr) (xs : List UInt8) (w : World) (hc : CurAt w b A c at_ xs) (hx : BytesIn w A xs) (hat : at_ ≤ 1000000) (hxs : xs.length ≤ maxLen) :
    Calls Try.prog 69 #[.pointer (some ⟨b, 0, none⟩)] w fun e w' => (∃ n : Nat, n ≤ 255 ∧ e = .returned (.int .i64 (n : Int))) ∧ CurAt w' b A c (at_ + 1) xs ∧ w.grownBy w' (some b) := by
  obtain ⟨seed, hsd0, hh⟩ := hc
  have HSD := Lib.hid hsd0; clear hsd0
  unfold maxLen at hxs
  have hbl : b < w.heap.size := lt_of_heap hh
  have h0 := cell_of_heap hh 0
  have h1 := cell_of_heap hh 1
  have h2 := cell_of_heap hh 2
  simp at h0 h1 h2
  have k0 := KeptW.cell h0 hbl
  have k1 := KeptW.cell h1 hbl
  have HX := Lib.hid hx; clear hx
  have HH := Lib.hid hh; clear hh
  by_cases hlt : at_ < xs.length
  · have hl1 : (at_ : Int) < (xs.length : Int) := by omega
    obtain ⟨b', off, rfl, hbl', hcs⟩ := HX.out (by omega)
    have hx0 := hcs at_ hlt
    clear hcs
    have hbyte : xs[at_].toNat < 256 := xs[at_].toNat_lt
    have hb1 : ((xs[at_].toNat : Nat) : Int) < 256 := by omega
    have k2 := KeptW.cell hx0 hbl'
    go_enter Try.func69, Try.ntmps69
    go_wp2_with fail
    refine region_kept w.heap.size (by kernel_rfl) (by kernel_rfl) ?_
    repeat (go_big_quiet_step (fail))
    refine wpQuiet_nil ?_
    intro w1 hbw1
    have hbl1 : b < w1.heap.size := Nat.lt_of_lt_of_le hbl hbw1.size
    have hbl1' : b' < w1.heap.size := Nat.lt_of_lt_of_le hbl' hbw1.size
    have h0 := (hbw1.cell (p := ⟨b, 0, none⟩) hbl).trans h0
    have h1 := (hbw1.cell (p := ⟨b, 1, none⟩) hbl).trans h1
    have h2 := (hbw1.cell (p := ⟨b, 2, none⟩) hbl).trans h2
    have hx0 := (hbw1.cell (p := ⟨b', off + at_, none⟩) hbl').trans hx0
    have k0 := KeptW.cell h0 hbl1
    have k1 := KeptW.cell h1 hbl1
    have k2 := KeptW.cell hx0 hbl1'
    go_wp2_with fail
    refine region_kept w1.heap.size (by kernel_rfl) (by kernel_rfl) ?_
    repeat (go_big_quiet_step (fail))
    refine wpQuiet_nil ?_
    intro w2 hbw2
    have hbl2 : b < w2.heap.size := Nat.lt_of_lt_of_le hbl1 hbw2.size
    have h0 := (hbw2.cell (p := ⟨b, 0, none⟩) hbl1).trans h0
    have h1 := (hbw2.cell (p := ⟨b, 1, none⟩) hbl1).trans h1
    have h2 := (hbw2.cell (p := ⟨b, 2, none⟩) hbl1).trans h2
    have hb12 := hbw1.trans (hbw2.mono hbw1.size)
    have HC2 : Hid (CurAt w2 b (some ⟨b', off, none⟩) c at_ xs) := (CurAt.below ⟨seed, HSD.out, HH.out⟩ hb12)
    have hfz : ∀ i, w2.frozen? ⟨b, i, none⟩ = false := fun i => by obtain ⟨sd, _, hsd⟩ := HC2.out; exact free_of_heap hsd i
    have hz1 := hfz 1
    have hz2 := hfz 2
    clear hfz k0 k1 k2 hx0 hbw1 hbw2
    go_wp2_with fail
    have hsd := u64_in (IntKind.u64.wrap (IntKind.u64.wrap (seed * 6364136223846793005) + ↑xs[at_].toNat) + 1442695040888963407)
    generalize IntKind.u64.wrap (IntKind.u64.wrap (IntKind.u64.wrap (seed * 6364136223846793005) + ↑xs[at_].toNat) + 1442695040888963407) = sd at *
    have hc3 := HC2.out.set sd hsd
    have hg3 := grown_set (grown_set (grown_below (World.grownBy.refl w (some b)) hb12) 1 (.int .i64 ((at_ : Int) + 1))) 2 (.int .u64 sd)
    generalize (w2.setCell ⟨b, 1, none⟩ (.int .i64 ((at_ : Int) + 1))).setCell ⟨b, 2, none⟩ (.int .u64 sd) = W3 at *
    obtain ⟨hbl3, g0, g1, sd3, hsd3, g2⟩ := hc3.cells
    rw [show ((at_ + 1 : Nat) : Int) = (at_ : Int) + 1 from by omega] at g1
    have k0 := KeptW.cell g0 hbl3
    have k1 := KeptW.cell g1 hbl3
    refine region_kept W3.heap.size (by kernel_rfl) (by kernel_rfl) ?_
    repeat (go_big_quiet_step (fail))
    refine wpQuiet_nil ?_
    intro w4 hbw4
    have hc4 := hc3.below hbw4
    have hg4 := grown_below hg3 hbw4
    clear hbw4 hg3 hc3 k0 k1 g0 g1 g2
    have HC4 := Lib.hid hc4
    have HG4 := Lib.hid hg4
    clear hc4 hg4
    go_wp2
    go_ret
    exact ⟨⟨xs[at_].toNat, by omega, rfl⟩, HC4.out, HG4.out⟩
  · have hl1 : ¬ (at_ : Int) < (xs.length : Int) := by omega
    go_enter Try.func69, Try.ntmps69
    go_wp2_with fail
    refine region_kept w.heap.size (by kernel_rfl) (by kernel_rfl) ?_
    repeat (go_big_quiet_step (fail))
    refine wpQuiet_nil ?_
    intro w2 hb12
    have hbl2 : b < w2.heap.size := Nat.lt_of_lt_of_le hbl hb12.size
    have h0 := (hb12.cell (p := ⟨b, 0, none⟩) hbl).trans h0
    have h1 := (hb12.cell (p := ⟨b, 1, none⟩) hbl).trans h1
    have h2 := (hb12.cell (p := ⟨b, 2, none⟩) hbl).trans h2
    have HC2 : Hid (CurAt w2 b A c at_ xs) := (CurAt.below ⟨seed, HSD.out, HH.out⟩ hb12)
    have hfz : ∀ i, w2.frozen? ⟨b, i, none⟩ = false := fun i => by obtain ⟨sd, _, hsd⟩ := HC2.out; exact free_of_heap hsd i
    have hz1 := hfz 1
    have hz2 := hfz 2
    clear hfz k0 k1
    go_wp2_with fail
    have hsd := u64_in (IntKind.u64.wrap (IntKind.u64.wrap (seed * 6364136223846793005)) + 1442695040888963407)
    generalize IntKind.u64.wrap (IntKind.u64.wrap (IntKind.u64.wrap (seed * 6364136223846793005)) + 1442695040888963407) = sd at *
    have hc3 := HC2.out.set sd hsd
    have hg3 := grown_set (grown_set (grown_below (World.grownBy.refl w (some b)) hb12) 1 (.int .i64 ((at_ : Int) + 1))) 2 (.int .u64 sd)
    generalize (w2.setCell ⟨b, 1, none⟩ (.int .i64 ((at_ : Int) + 1))).setCell ⟨b, 2, none⟩ (.int .u64 sd) = W3 at *
    obtain ⟨hbl3, g0, g1, sd3, hsd3, g2⟩ := hc3.cells
    rw [show ((at_ + 1 : Nat) : Int) = (at_ : Int) + 1 from by omega] at g1
    have k0 := KeptW.cell g0 hbl3
    have k1 := KeptW.cell g1 hbl3
    have hl2 : ¬ (at_ : Int) + 1 ≤ (xs.length : Int) := by omega
    refine region_kept W3.heap.size (by kernel_rfl) (by kernel_rfl) ?_
    repeat (go_big_quiet_step (fail))
    refine wpQuiet_nil ?_
    intro w4 hbw4
    have hc4 := hc3.below hbw4
    have hg4 := grown_below hg3 hbw4
    have g2 := (hbw4.cell (p := ⟨b, 2, none⟩) hbl3).trans g2
    clear hbw4 hg3 hc3 k0 k1 g0 g1
    have HC4 := Lib.hid hc4
    have HG4 := Lib.hid hg4
    clear hc4 hg4
    obtain ⟨n, hn, hv⟩ := low_byte sd3 hsd3.1 hsd3.2
    have HV := Lib.hid hv; clear hv
    go_wp2
    go_ret
    exact ⟨⟨n, hn, ret_int HV.out⟩, HC4.out, HG4.out⟩

/-- The cursor in block b stands at M at most; its bytes lie in an earlier block. -/
def CurLe (w : World) (b : Nat) (A : Option Addr) (c M : Nat) (xs : List UInt8) : Prop :=
  (∃ at_, at_ ≤ M ∧ CurAt w b A c at_ xs) ∧ (0 < xs.length → ∃ b' off, A = some ⟨b', off, none⟩ ∧ b' < b ∧ ∀ k (h : k < xs.length), w.cell? ⟨b', off + k, none⟩ = some (.int .u8 (xs[k].toNat : Int)))
theorem CurLe.lt {w : World} {b c M : Nat} {A : Option Addr} {xs : List UInt8} (h : CurLe w b A c M xs) : b < w.heap.size := by
  obtain ⟨⟨a, _, h1⟩, _⟩ := h
  exact h1.cells.1
theorem CurLe.more {w : World} {b c M M' : Nat} {A : Option Addr} {xs : List UInt8} (h : CurLe w b A c M xs) (hM : M ≤ M') : CurLe w b A c M' xs := by
  obtain ⟨⟨a, h0, h1⟩, h2⟩ := h
  exact ⟨⟨a, by omega, h1⟩, h2⟩
theorem CurLe.below {w w' : World} {b c M : Nat} {A : Option Addr} {xs : List UInt8} (h : CurLe w b A c M xs) (hb : Below w.heap.size w w') : CurLe w' b A c M xs := by
  have hl := h.lt
  obtain ⟨⟨a, h0, h1⟩, h2⟩ := h
  refine ⟨⟨a, h0, h1.below hb⟩, fun hn => ?_⟩
  obtain ⟨b', off, e, hlt, hc⟩ := h2 hn
  exact ⟨b', off, e, hlt, fun k hk => (hb.cell (by show b' < _; omega)).trans (hc k hk)⟩
theorem cell_grownC {w w' : World} {b b' i : Nat} (hg : w.grownBy w' (some b)) (h : b' < w.heap.size) (hne : b' ≠ b) : w'.cell? ⟨b', i, none⟩ = w.cell? ⟨b', i, none⟩ := by
  have := hg.block b' h (fun e => hne (Option.some.inj e))
  unfold World.cell?
  rw [this]
theorem next_le (b c M : Nat) (A : Option Addr) (xs : List UInt8) (w : World) (hc : CurLe w b A c M xs) (hat : M ≤ 1000000) (hxs : xs.length ≤ maxLen) :
    Calls Try.prog 69 #[.pointer (some ⟨b, 0, none⟩)] w fun e w' => (∃ n : Nat, n ≤ 255 ∧ e = .returned (.int .i64 (n : Int))) ∧ CurLe w' b A c (M + 1) xs ∧ w.grownBy w' (some b) := by
  have hl := hc.lt
  obtain ⟨⟨a, h0, h1⟩, h2⟩ := hc
  refine (next_any b c a A xs w h1 (fun hn => ?_) (by omega) hxs).mono ?_
  · obtain ⟨b', off, e, hlt, hcs⟩ := h2 hn
    exact ⟨b', off, e, by omega, hcs⟩
  · rintro e w' ⟨hn, hc', hg⟩
    refine ⟨hn, ⟨⟨a + 1, by omega, hc'⟩, fun hn => ?_⟩, hg⟩
    obtain ⟨b', off, e, hlt, hcs⟩ := h2 hn
    exact ⟨b', off, e, hlt, fun k hk => (cell_grownC hg (by omega) (by omega)).trans (hcs k hk)⟩

set_option maxRecDepth 100000 in
theorem pick_any (n : Nat) (b c M : Nat) (A : Option Addr) (xs : List UInt8) (w : World) (hc : CurLe w b A c M xs) (hat : M ≤ 1000000) (hxs : xs.length ≤ maxLen) (h1 : 1 ≤ n) (h2 : n ≤ 200) :
    Calls Try.prog 55 #[.pointer (some ⟨b, 0, none⟩), .int .i64 (n : Int)] w fun e w' => (∃ k : Nat, k < n ∧ e = .returned (.int .i64 (k : Int))) ∧ CurLe w' b A c (M + 1) xs ∧ w.grownBy w' (some b) := by
  have HC := Lib.hid hc; clear hc
  by_cases hn : n = 1
  · subst hn
    go_enter Try.func55, Try.ntmps55
    go_wp2
    go_ret
    exact ⟨⟨0, by omega, rfl⟩, HC.out.more (by omega), World.grownBy.refl _ _⟩
  · have hn1 : ¬ (n : Int) ≤ 1 := by omega
    have hn2 : ¬ (200 : Int) < (n : Int) := by omega
    have hn0 : (0 : Int) < (n : Int) := by omega
    have hnz : (n : Int) ≠ 0 := by omega
    go_enter Try.func55, Try.ntmps55
    go_wp2_with fail
    refine (next_le b c M A xs _ HC.out hat hxs).mono ?_
    rintro e w1 ⟨⟨x, hx, rfl⟩, hc1, hg1⟩
    have HC1 := Lib.hid hc1
    have HG1 := Lib.hid hg1
    clear hc1 hg1
    have hx0 : (0 : Int) ≤ (x : Int) := by omega
    have hx1 : (x : Int) ≤ 255 := by omega
    go_wp2
    go_ret
    refine ⟨⟨x % n, Nat.mod_lt _ (by omega), ?_⟩, HC1.out, HG1.out⟩
    exact ret_int (Int.natCast_emod x n).symm

set_option maxRecDepth 100000 in
theorem one_any (n : Nat) (b c M : Nat) (A : Option Addr) (xs : List UInt8) (w : World) (hc : CurLe w b A c M xs) (hat : M ≤ 1000000) (hxs : xs.length ≤ maxLen) (h1 : 1 ≤ n) (h2 : n ≤ 200) :
    Calls Try.prog 59 #[.pointer (some ⟨b, 0, none⟩), .int .i64 (n : Int)] w fun e w' => (∃ r : Bool, e = .returned (.bool r)) ∧ CurLe w' b A c (M + 1) xs ∧ w.grownBy w' (some b) := by
  have HC := Lib.hid hc; clear hc
  go_enter Try.func59, Try.ntmps59
  go_wp2_with fail
  refine (pick_any n b c M A xs w HC.out hat hxs h1 h2).mono ?_
  rintro e w1 ⟨⟨x, hx, rfl⟩, hc1, hg1⟩
  have HC1 := Lib.hid hc1
  have HG1 := Lib.hid hg1
  clear hc1 hg1
  go_wp2
  go_ret
  exact ⟨⟨_, rfl⟩, HC1.out, HG1.out⟩

theorem grownBy_alloc {w w' : World} {b : Nat} (h : w.grownBy w' (some b)) (o : Obj) : w.grownBy (w'.alloc o) (some b) := grown_below h ((Below.refl _ _).alloc (Nat.le_refl _) o)
theorem grownBy_trans {w w' w'' : World} {b : Nat} (h : w.grownBy w' (some b)) (h' : w'.grownBy w'' (some b)) : w.grownBy w'' (some b) :=
  ⟨h'.os.trans h.os, h'.tape.trans h.tape, h'.output.trans h.output, Nat.le_trans h.size h'.size, fun i hi hne => (h'.block i (Nat.lt_of_lt_of_le hi h.size) hne).trans (h.block i hi hne)⟩
theorem cell_keep {w w' : World} {b' i : Nat} {row : Option Nat} (hg : w.grownBy w' row) (h : b' < w.heap.size) (hne : row ≠ some b') : w'.cell? ⟨b', i, none⟩ = w.cell? ⟨b', i, none⟩ := by
  have := hg.block b' h (fun e => hne e.symm)
  unfold World.cell?
  rw [this]
theorem grownBy_own {w wr w4 : World} {b : Nat} {row : Option Nat} (h : w.grownBy wr (some b)) (hg : wr.grownBy w4 row) (hrow : ∀ k, row = some k → w.heap.size ≤ k) : w.grownBy w4 (some b) :=
  ⟨hg.os.trans h.os, hg.tape.trans h.tape, hg.output.trans h.output, Nat.le_trans h.size hg.size, fun i hi hne => (hg.block i (Nat.lt_of_lt_of_le hi h.size) (fun e => by have := hrow i e.symm; omega)).trans (h.block i hi hne)⟩
theorem CurLe.own {w w' : World} {b c M : Nat} {A : Option Addr} {xs : List UInt8} {row : Option Nat} (h : CurLe w b A c M xs) (hg : w.grownBy w' row) (hrow : ∀ k, row = some k → b < k) : CurLe w' b A c M xs := by
  have hl := h.lt
  obtain ⟨⟨a, h0, sd, h1, h1'⟩, h2⟩ := h
  refine ⟨⟨a, h0, sd, h1, (hg.block b hl (fun e => by have := hrow b e.symm; omega)).trans h1'⟩, fun hn => ?_⟩
  obtain ⟨b', off, e, hlt, hc⟩ := h2 hn
  exact ⟨b', off, e, hlt, fun k hk => (cell_keep hg (by omega) (fun e => by have := hrow b' e; omega)).trans (hc k hk)⟩
theorem row_ints (w : World) (l : List Int) : IntsIn (w.alloc (.cells (intsZ l).toArray 3)) (some ⟨w.heap.size, 0, none⟩) l := fun hn =>
  ⟨w.heap.size, 0, rfl, by simp, fun k hk => by
    rw [cell_of_heap (heap_new _ _)]
    simp [intsZ, hk]⟩
set_option maxRecDepth 100000 in
theorem among_any (l : List Int) (g c' : Nat) (b c M : Nat) (A : Option Addr) (xs : List UInt8) (w : World) (hc : CurLe w b A c M xs) (hat : M ≤ 1000000) (hxs : xs.length ≤ maxLen) (hl : IntsIn w (some ⟨g, 0, none⟩) l) (hne : g ≠ b) (h1 : 1 ≤ l.length) (h2 : l.length ≤ 200) :
    Calls Try.prog 54 #[.pointer (some ⟨b, 0, none⟩), .slice (some ⟨g, 0, none⟩) l.length c'] w fun e w' => (∃ s, s ∈ l ∧ e = .returned (.int .i64 s)) ∧ CurLe w' b A c (M + 1) xs ∧ w.grownBy w' (some b) := by
  have HC := Lib.hid hc; clear hc
  have HL := Lib.hid hl; clear hl
  go_enter Try.func54, Try.ntmps54
  go_wp2_with fail
  refine (pick_any l.length b c M A xs w HC.out hat hxs h1 h2).mono ?_
  rintro e w1 ⟨⟨x, hx, rfl⟩, hc1, hg1⟩
  obtain ⟨b', off, e, hbl, hcs⟩ := HL.out (by omega)
  obtain ⟨rfl, rfl⟩ : g = b' ∧ 0 = off := by simpa using e
  have hx0 := (cell_keep hg1 hbl (fun e => hne (Option.some.inj e).symm)).trans (hcs x hx)
  rw [Nat.zero_add] at hx0
  have HC1 := Lib.hid hc1
  have HG1 := Lib.hid hg1
  have hbl1 : g < w1.heap.size := Nat.lt_of_lt_of_le hbl hg1.size
  have hx1 : (x : Int) < (l.length : Int) := by omega
  clear hc1 hg1 hcs e
  go_wp2
  go_ret
  exact ⟨⟨l[x], List.getElem_mem _, rfl⟩, HC1.out, HG1.out⟩

end Go.Proofs.Yteagclokobkigaa
