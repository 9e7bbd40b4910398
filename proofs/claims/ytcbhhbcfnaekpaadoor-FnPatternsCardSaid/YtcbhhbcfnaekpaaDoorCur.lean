/-
  The cursor of the draws: spec.l1Cur.next answers some number from 0 to 255, moves the cursor on, and changes nothing else. (For FnFonts.)
-/
import Derived.Test.YtcbhhbcfnaekpaaDoorMil
import Derived.Laws.BitsAllLaws
namespace Go.Proofs.YtcbhhbcfnaekpaaDoor
open Go.RowKit
set_option linter.unusedVariables false

/-- The bytes of a slice. -/
def BytesIn (w : World) (A : Option Addr) (l : List UInt8) : Prop :=
  0 < l.length → ∃ b off, A = some ⟨b, off, none⟩ ∧ b < w.heap.size ∧ ∀ k (h : k < l.length), w.cell? ⟨b, off + k, none⟩ = some (.int .u8 (l[k].toNat : Int))
/-- The cursor in block b, on the bytes xs at A, stands at 'at'. -/
def CurAt (w : World) (b : Nat) (A : Option Addr) (c at_ : Nat) (xs : List UInt8) : Prop :=
  ∃ seed : Int, (0 ≤ seed ∧ seed < 18446744073709551616) ∧ w.heap[b]? = some (.cells #[.slice A xs.length c, .int .i64 (at_ : Int), .int .u64 seed] 71 (0, 0))
theorem CurAt.below {w w' : World} {b c at_ : Nat} {A : Option Addr} {xs : List UInt8} (h : CurAt w b A c at_ xs) (hb : Below w.heap.size w w') : CurAt w' b A c at_ xs := by
  obtain ⟨seed, h0, h1⟩ := h
  exact ⟨seed, h0, (hb.block b (lt_of_heap h1)).trans h1⟩

theorem u64_in (x : Int) : 0 ≤ IntKind.u64.wrap x ∧ IntKind.u64.wrap x < 18446744073709551616 := by
  rw [show IntKind.u64.wrap x = x % 18446744073709551616 from by simp [IntKind.wrap, IntKind.bits, IntKind.signed]]
  omega
theorem low_byte (x : Int) (h0 : 0 ≤ x) (h1 : x < 18446744073709551616) : ∃ n : Nat, n ≤ 255 ∧ wrap64 (bits .and .u64 (x / 1099511627776) 255) = (n : Int) := by
  have e : (255 : Int) = ((255 : Nat) : Int) := rfl
  have h := u64_and (x / 1099511627776) 255 (by omega) (by omega) (by omega) (by omega)
  refine ⟨(x / 1099511627776).toNat &&& 255, Nat.and_le_right, ?_⟩
  rw [h]
  have hb : (x / 1099511627776).toNat &&& 255 ≤ 255 := Nat.and_le_right
  show wrap64 (((x / 1099511627776).toNat &&& 255 : Nat) : Int) = _
  generalize (x / 1099511627776).toNat &&& 255 = m at *
  unfold wrap64
  omega
theorem CurAt.set {w : World} {b c at_ : Nat} {A : Option Addr} {xs : List UInt8} (h : CurAt w b A c at_ xs) (sd : Int) (hsd : 0 ≤ sd ∧ sd < 18446744073709551616) : CurAt ((w.setCell ⟨b, 1, none⟩ (.int .i64 ((at_ : Int) + 1))).setCell ⟨b, 2, none⟩ (.int .u64 sd)) b A c (at_ + 1) xs := by
  obtain ⟨seed, h0, h1⟩ := h
  refine ⟨sd, hsd, ?_⟩
  rw [heap_set (heap_set h1 _)]
  simp
theorem CurAt.cells {w : World} {b c at_ : Nat} {A : Option Addr} {xs : List UInt8} (h : CurAt w b A c at_ xs) : b < w.heap.size ∧ w.cell? ⟨b, 0, none⟩ = some (.slice A xs.length c) ∧ w.cell? ⟨b, 1, none⟩ = some (.int .i64 (at_ : Int)) ∧ ∃ seed, (0 ≤ seed ∧ seed < 18446744073709551616) ∧ w.cell? ⟨b, 2, none⟩ = some (.int .u64 seed) := by
  obtain ⟨seed, h0, h1⟩ := h
  refine ⟨lt_of_heap h1, ?_, ?_, seed, h0, ?_⟩
  · rw [cell_of_heap h1]; rfl
  · rw [cell_of_heap h1]; rfl
  · rw [cell_of_heap h1]; rfl

set_option maxRecDepth 100000 in
theorem next_any (b c at_ : Nat) (A : Option Addr) (xs : List UInt8) (w : World) (hc : CurAt w b A c at_ xs) (hx : BytesIn w A xs) (hat : at_ ≤ 1000000) (hxs : xs.length ≤ maxLen) :
    Calls Tryd.prog 102 #[.pointer (some ⟨b, 0, none⟩)] w fun e w' => (∃ n : Nat, n ≤ 255 ∧ e = .returned (.int .i64 (n : Int))) ∧ CurAt w' b A c (at_ + 1) xs ∧ w.grownBy w' (some b) := by
  obtain ⟨seed, hsd0, hh⟩ := hc
  have HSD := Lib.hid hsd0; clear hsd0
  unfold maxLen at hxs
  have hbl : b < w.heap.size := lt_of_heap hh
  have h0 := cell_of_heap hh 0
  have h1 := cell_of_heap hh 1
  have h2 := cell_of_heap hh 2
  simp at h0 h1 h2
  have k0 := KeptW.cell h0 hbl
  have k1 := KeptW.cell h1 hbl
  have HX := Lib.hid hx; clear hx
  have HH := Lib.hid hh; clear hh
  by_cases hlt : at_ < xs.length
  · have hl1 : (at_ : Int) < (xs.length : Int) := by omega
    obtain ⟨b', off, rfl, hbl', hcs⟩ := HX.out (by omega)
    have hx0 := hcs at_ hlt
    clear hcs
    have hbyte : xs[at_].toNat < 256 := xs[at_].toNat_lt
    have hb1 : ((xs[at_].toNat : Nat) : Int) < 256 := by omega
    have k2 := KeptW.cell hx0 hbl'
    go_enter Tryd.func102, Tryd.ntmps102
    go_wp2_with fail
    refine region_kept w.heap.size (by kernel_rfl) (by kernel_rfl) ?_
    repeat (go_big_quiet_step (fail))
    refine wpQuiet_nil ?_
    intro w1 hbw1
    have hbl1 : b < w1.heap.size := Nat.lt_of_lt_of_le hbl hbw1.size
    have hbl1' : b' < w1.heap.size := Nat.lt_of_lt_of_le hbl' hbw1.size
    have h0 := (hbw1.cell (p := ⟨b, 0, none⟩) hbl).trans h0
    have h1 := (hbw1.cell (p := ⟨b, 1, none⟩) hbl).trans h1
    have h2 := (hbw1.cell (p := ⟨b, 2, none⟩) hbl).trans h2
    have hx0 := (hbw1.cell (p := ⟨b', off + at_, none⟩) hbl').trans hx0
    have k0 := KeptW.cell h0 hbl1
    have k1 := KeptW.cell h1 hbl1
    have k2 := KeptW.cell hx0 hbl1'
    go_wp2_with fail
    refine region_kept w1.heap.size (by kernel_rfl) (by kernel_rfl) ?_
    repeat (go_big_quiet_step (fail))
    refine wpQuiet_nil ?_
    intro w2 hbw2
    have hbl2 : b < w2.heap.size := Nat.lt_of_lt_of_le hbl1 hbw2.size
    have h0 := (hbw2.cell (p := ⟨b, 0, none⟩) hbl1).trans h0
    have h1 := (hbw2.cell (p := ⟨b, 1, none⟩) hbl1).trans h1
    have h2 := (hbw2.cell (p := ⟨b, 2, none⟩) hbl1).trans h2
    have hb12 := hbw1.trans (hbw2.mono hbw1.size)
    have HC2 : Hid (CurAt w2 b (some ⟨b', off, none⟩) c at_ xs) := (CurAt.below ⟨seed, HSD.out, HH.out⟩ hb12)
    have hfz : ∀ i, w2.frozen? ⟨b, i, none⟩ = false := fun i => by obtain ⟨sd, _, hsd⟩ := HC2.out; exact free_of_heap hsd i
    have hz1 := hfz 1
    have hz2 := hfz 2
    clear hfz k0 k1 k2 hx0 hbw1 hbw2
    go_wp2_with fail
    have hsd := u64_in (IntKind.u64.wrap (IntKind.u64.wrap (seed * 6364136223846793005) + ↑xs[at_].toNat) + 1442695040888963407)
    generalize IntKind.u64.wrap (IntKind.u64.wrap (IntKind.u64.wrap (seed * 6364136223846793005) + ↑xs[at_].toNat) + 1442695040888963407) = sd at *
    have hc3 := HC2.out.set sd hsd
    have hg3 := grown_set (grown_set (grown_below (World.grownBy.refl w (some b)) hb12) 1 (.int .i64 ((at_ : Int) + 1))) 2 (.int .u64 sd)
    generalize (w2.setCell ⟨b, 1, none⟩ (.int .i64 ((at_ : Int) + 1))).setCell ⟨b, 2, none⟩ (.int .u64 sd) = W3 at *
    obtain ⟨hbl3, g0, g1, sd3, hsd3, g2⟩ := hc3.cells
    rw [show ((at_ + 1 : Nat) : Int) = (at_ : Int) + 1 from by omega] at g1
    have k0 := KeptW.cell g0 hbl3
    have k1 := KeptW.cell g1 hbl3
    refine region_kept W3.heap.size (by kernel_rfl) (by kernel_rfl) ?_
    repeat (go_big_quiet_step (fail))
    refine wpQuiet_nil ?_
    intro w4 hbw4
    have hc4 := hc3.below hbw4
    have hg4 := grown_below hg3 hbw4
    clear hbw4 hg3 hc3 k0 k1 g0 g1 g2
    have HC4 := Lib.hid hc4
    have HG4 := Lib.hid hg4
    clear hc4 hg4
    go_wp2
    go_ret
    exact ⟨⟨xs[at_].toNat, by omega, rfl⟩, HC4.out, HG4.out⟩
  · have hl1 : ¬ (at_ : Int) < (xs.length : Int) := by omega
    go_enter Tryd.func102, Tryd.ntmps102
    go_wp2_with fail
    refine region_kept w.heap.size (by kernel_rfl) (by kernel_rfl) ?_
    repeat (go_big_quiet_step (fail))
    refine wpQuiet_nil ?_
    intro w2 hb12
    have hbl2 : b < w2.heap.size := Nat.lt_of_lt_of_le hbl hb12.size
    have h0 := (hb12.cell (p := ⟨b, 0, none⟩) hbl).trans h0
    have h1 := (hb12.cell (p := ⟨b, 1, none⟩) hbl).trans h1
    have h2 := (hb12.cell (p := ⟨b, 2, none⟩) hbl).trans h2
    have HC2 : Hid (CurAt w2 b A c at_ xs) := (CurAt.below ⟨seed, HSD.out, HH.out⟩ hb12)
    have hfz : ∀ i, w2.frozen? ⟨b, i, none⟩ = false := fun i => by obtain ⟨sd, _, hsd⟩ := HC2.out; exact free_of_heap hsd i
    have hz1 := hfz 1
    have hz2 := hfz 2
    clear hfz k0 k1
    go_wp2_with fail
    have hsd := u64_in (IntKind.u64.wrap (IntKind.u64.wrap (seed * 6364136223846793005)) + 1442695040888963407)
    generalize IntKind.u64.wrap (IntKind.u64.wrap (IntKind.u64.wrap (seed * 6364136223846793005)) + 1442695040888963407) = sd at *
    have hc3 := HC2.out.set sd hsd
    have hg3 := grown_set (grown_set (grown_below (World.grownBy.refl w (some b)) hb12) 1 (.int .i64 ((at_ : Int) + 1))) 2 (.int .u64 sd)
    generalize (w2.setCell ⟨b, 1, none⟩ (.int .i64 ((at_ : Int) + 1))).setCell ⟨b, 2, none⟩ (.int .u64 sd) = W3 at *
    obtain ⟨hbl3, g0, g1, sd3, hsd3, g2⟩ := hc3.cells
    rw [show ((at_ + 1 : Nat) : Int) = (at_ : Int) + 1 from by omega] at g1
    have k0 := KeptW.cell g0 hbl3
    have k1 := KeptW.cell g1 hbl3
    have hl2 : ¬ (at_ : Int) + 1 ≤ (xs.length : Int) := by omega
    refine region_kept W3.heap.size (by kernel_rfl) (by kernel_rfl) ?_
    repeat (go_big_quiet_step (fail))
    refine wpQuiet_nil ?_
    intro w4 hbw4
    have hc4 := hc3.below hbw4
    have hg4 := grown_below hg3 hbw4
    have g2 := (hbw4.cell (p := ⟨b, 2, none⟩) hbl3).trans g2
    clear hbw4 hg3 hc3 k0 k1 g0 g1
    have HC4 := Lib.hid hc4
    have HG4 := Lib.hid hg4
    clear hc4 hg4
    obtain ⟨n, hn, hv⟩ := low_byte sd3 hsd3.1 hsd3.2
    have HV := Lib.hid hv; clear hv
    go_wp2
    go_ret
    exact ⟨⟨n, hn, ret_int HV.out⟩, HC4.out, HG4.out⟩

/-- The cursor in block b stands at M at most; its bytes lie in an earlier block. -/
def CurLe (w : World) (b : Nat) (A : Option Addr) (c M : Nat) (xs : List UInt8) : Prop :=
  (∃ at_, at_ ≤ M ∧ CurAt w b A c at_ xs) ∧ (0 < xs.length → ∃ b' off, A = some ⟨b', off, none⟩ ∧ b' < b ∧ ∀ k (h : k < xs.length), w.cell? ⟨b', off + k, none⟩ = some (.int .u8 (xs[k].toNat : Int)))
theorem CurLe.lt {w : World} {b c M : Nat} {A : Option Addr} {xs : List UInt8} (h : CurLe w b A c M xs) : b < w.heap.size := by
  obtain ⟨⟨a, _, h1⟩, _⟩ := h
  exact h1.cells.1
theorem CurLe.more {w : World} {b c M M' : Nat} {A : Option Addr} {xs : List UInt8} (h : CurLe w b A c M xs) (hM : M ≤ M') : CurLe w b A c M' xs := by
  obtain ⟨⟨a, h0, h1⟩, h2⟩ := h
  exact ⟨⟨a, by omega, h1⟩, h2⟩
theorem CurLe.below {w w' : World} {b c M : Nat} {A : Option Addr} {xs : List UInt8} (h : CurLe w b A c M xs) (hb : Below w.heap.size w w') : CurLe w' b A c M xs := by
  have hl := h.lt
  obtain ⟨⟨a, h0, h1⟩, h2⟩ := h
  refine ⟨⟨a, h0, h1.below hb⟩, fun hn => ?_⟩
  obtain ⟨b', off, e, hlt, hc⟩ := h2 hn
  exact ⟨b', off, e, hlt, fun k hk => (hb.cell (by show b' < _; omega)).trans (hc k hk)⟩
theorem cell_grownC {w w' : World} {b b' i : Nat} (hg : w.grownBy w' (some b)) (h : b' < w.heap.size) (hne : b' ≠ b) : w'.cell? ⟨b', i, none⟩ = w.cell? ⟨b', i, none⟩ := by
  have := hg.block b' h (fun e => hne (Option.some.inj e))
  unfold World.cell?
  rw [this]
theorem next_le (b c M : Nat) (A : Option Addr) (xs : List UInt8) (w : World) (hc : CurLe w b A c M xs) (hat : M ≤ 1000000) (hxs : xs.length ≤ maxLen) :
    Calls Tryd.prog 102 #[.pointer (some ⟨b, 0, none⟩)] w fun e w' => (∃ n : Nat, n ≤ 255 ∧ e = .returned (.int .i64 (n : Int))) ∧ CurLe w' b A c (M + 1) xs ∧ w.grownBy w' (some b) := by
  have hl := hc.lt
  obtain ⟨⟨a, h0, h1⟩, h2⟩ := hc
  refine (next_any b c a A xs w h1 (fun hn => ?_) (by omega) hxs).mono ?_
  · obtain ⟨b', off, e, hlt, hcs⟩ := h2 hn
    exact ⟨b', off, e, by omega, hcs⟩
  · rintro e w' ⟨hn, hc', hg⟩
    refine ⟨hn, ⟨⟨a + 1, by omega, hc'⟩, fun hn => ?_⟩, hg⟩
    obtain ⟨b', off, e, hlt, hcs⟩ := h2 hn
    exact ⟨b', off, e, hlt, fun k hk => (cell_grownC hg (by omega) (by omega)).trans (hcs k hk)⟩

set_option maxRecDepth 100000 in
theorem pick_any (n : Nat) (b c M : Nat) (A : Option Addr) (xs : List UInt8) (w : World) (hc : CurLe w b A c M xs) (hat : M ≤ 1000000) (hxs : xs.length ≤ maxLen) (h1 : 1 ≤ n) (h2 : n ≤ 200) :
    Calls Tryd.prog 87 #[.pointer (some ⟨b, 0, none⟩), .int .i64 (n : Int)] w fun e w' => (∃ k : Nat, k < n ∧ e = .returned (.int .i64 (k : Int))) ∧ CurLe w' b A c (M + 1) xs ∧ w.grownBy w' (some b) := by
  have HC := Lib.hid hc; clear hc
  by_cases hn : n = 1
  · subst hn
    go_enter Tryd.func87, Tryd.ntmps87
    go_wp2
    go_ret
    exact ⟨⟨0, by omega, rfl⟩, HC.out.more (by omega), World.grownBy.refl _ _⟩
  · have hn1 : ¬ (n : Int) ≤ 1 := by omega
    have hn2 : ¬ (200 : Int) < (n : Int) := by omega
    have hn0 : (0 : Int) < (n : Int) := by omega
    have hnz : (n : Int) ≠ 0 := by omega
    go_enter Tryd.func87, Tryd.ntmps87
    go_wp2_with fail
    refine (next_le b c M A xs _ HC.out hat hxs).mono ?_
    rintro e w1 ⟨⟨x, hx, rfl⟩, hc1, hg1⟩
    have HC1 := Lib.hid hc1
    have HG1 := Lib.hid hg1
    clear hc1 hg1
    have hx0 : (0 : Int) ≤ (x : Int) := by omega
    have hx1 : (x : Int) ≤ 255 := by omega
    go_wp2
    go_ret
    refine ⟨⟨x % n, Nat.mod_lt _ (by omega), ?_⟩, HC1.out, HG1.out⟩
    exact ret_int (Int.natCast_emod x n).symm

set_option maxRecDepth 100000 in
theorem one_any (n : Nat) (b c M : Nat) (A : Option Addr) (xs : List UInt8) (w : World) (hc : CurLe w b A c M xs) (hat : M ≤ 1000000) (hxs : xs.length ≤ maxLen) (h1 : 1 ≤ n) (h2 : n ≤ 200) :
    Calls Tryd.prog 89 #[.pointer (some ⟨b, 0, none⟩), .int .i64 (n : Int)] w fun e w' => (∃ r : Bool, e = .returned (.bool r)) ∧ CurLe w' b A c (M + 1) xs ∧ w.grownBy w' (some b) := by
  have HC := Lib.hid hc; clear hc
  go_enter Tryd.func89, Tryd.ntmps89
  go_wp2_with fail
  refine (pick_any n b c M A xs w HC.out hat hxs h1 h2).mono ?_
  rintro e w1 ⟨⟨x, hx, rfl⟩, hc1, hg1⟩
  have HC1 := Lib.hid hc1
  have HG1 := Lib.hid hg1
  clear hc1 hg1
  go_wp2
  go_ret
  exact ⟨⟨_, rfl⟩, HC1.out, HG1.out⟩

theorem row_strs (w : World) (l : List ByteArray) : StrsIn (w.alloc (.cells (strs l).toArray 9)) (some ⟨w.heap.size, 0, none⟩) l := fun hn =>
  ⟨w.heap.size, 0, rfl, by simp, fun k hk => by
    rw [cell_of_heap (heap_new _ _)]
    simp [strs, hk]⟩
theorem StrsIn.grown {w w' : World} {b g : Nat} {l : List ByteArray} (h : StrsIn w (some ⟨g, 0, none⟩) l) (hg : w.grownBy w' (some b)) (hne : g ≠ b) : StrsIn w' (some ⟨g, 0, none⟩) l := fun hn => by
  obtain ⟨b', off, e, hl, hc⟩ := h hn
  obtain ⟨rfl, rfl⟩ : g = b' ∧ 0 = off := by simpa using e
  exact ⟨g, 0, rfl, Nat.lt_of_lt_of_le hl hg.size, fun k hk => (cell_grownC hg hl hne).trans (hc k hk)⟩

set_option maxRecDepth 100000 in
theorem of_any (l : List ByteArray) (g c' : Nat) (b c M : Nat) (A : Option Addr) (xs : List UInt8) (w : World) (hc : CurLe w b A c M xs) (hat : M ≤ 1000000) (hxs : xs.length ≤ maxLen) (hl : StrsIn w (some ⟨g, 0, none⟩) l) (hne : g ≠ b) (h1 : 1 ≤ l.length) (h2 : l.length ≤ 200) :
    Calls Tryd.prog 73 #[.pointer (some ⟨b, 0, none⟩), .slice (some ⟨g, 0, none⟩) l.length c'] w fun e w' => (∃ s, s ∈ l ∧ e = .returned (.string s)) ∧ CurLe w' b A c (M + 1) xs ∧ w.grownBy w' (some b) := by
  have HC := Lib.hid hc; clear hc
  have HL := Lib.hid hl; clear hl
  go_enter Tryd.func73, Tryd.ntmps73
  go_wp2_with fail
  refine (pick_any l.length b c M A xs w HC.out hat hxs h1 h2).mono ?_
  rintro e w1 ⟨⟨x, hx, rfl⟩, hc1, hg1⟩
  obtain ⟨b', off, e, hbl, hcs⟩ := (HL.out.grown hg1 hne) (by omega)
  obtain ⟨rfl, rfl⟩ : g = b' ∧ 0 = off := by simpa using e
  have hx0 := hcs x hx
  rw [Nat.zero_add] at hx0
  have HC1 := Lib.hid hc1
  have HG1 := Lib.hid hg1
  have hx1 : (x : Int) < (l.length : Int) := by omega
  clear hc1 hg1 hcs e
  go_wp2
  go_ret
  exact ⟨⟨l[x], List.getElem_mem _, rfl⟩, HC1.out, HG1.out⟩

/-- The texts of which a drawn word is made. -/
def wordTexts : List ByteArray := [⟨#[97]⟩, ⟨#[98]⟩, ⟨#[99]⟩, ⟨#[97, 98]⟩, ⟨#[98, 98]⟩, ⟨#[97, 98, 99]⟩, ⟨#[100]⟩, ⟨#[101]⟩, ⟨#[102]⟩, ⟨#[102, 105]⟩]
theorem grownBy_alloc {w w' : World} {b : Nat} (h : w.grownBy w' (some b)) (o : Obj) : w.grownBy (w'.alloc o) (some b) := grown_below h ((Below.refl _ _).alloc (Nat.le_refl _) o)
theorem grownBy_trans {w w' w'' : World} {b : Nat} (h : w.grownBy w' (some b)) (h' : w'.grownBy w'' (some b)) : w.grownBy w'' (some b) :=
  ⟨h'.os.trans h.os, h'.tape.trans h.tape, h'.output.trans h.output, Nat.le_trans h.size h'.size, fun i hi hne => (h'.block i (Nat.lt_of_lt_of_le hi h.size) hne).trans (h.block i hi hne)⟩
theorem wordTexts_size : ∀ s ∈ wordTexts, 1 ≤ s.size ∧ s.size ≤ 3 := by
  intro s hs
  simp only [wordTexts, List.mem_cons, List.not_mem_nil, or_false] at hs
  rcases hs with rfl | rfl | rfl | rfl | rfl | rfl | rfl | rfl | rfl | rfl <;> decide

set_option maxRecDepth 100000 in
theorem word_any (b c M : Nat) (A : Option Addr) (xs : List UInt8) (w : World) (hc : CurLe w b A c M xs) (hat : M ≤ 999990) (hxs : xs.length ≤ maxLen) :
    Calls Tryd.prog 103 #[.pointer (some ⟨b, 0, none⟩)] w fun e w' => (∃ s : ByteArray, s.size ≤ 9 ∧ e = .returned (.string s)) ∧ CurLe w' b A c (M + 10) xs ∧ w.grownBy w' (some b) := by
  have HC := Lib.hid hc; clear hc
  go_enter Tryd.func103, Tryd.ntmps103
  go_wp2_with fail
  refine (pick_any 6 b c M A xs w HC.out (by omega) hxs (by omega) (by omega)).mono ?_
  rintro e w1 ⟨⟨x, hx, rfl⟩, hc1, hg1⟩
  have HC1 := Lib.hid hc1
  have HG1 := Lib.hid hg1
  have hx1 : (x : Int) < 6 := by omega
  clear hc1 hg1
  go_wp2
  go_loopw [3] (fun v wr => ∃ (s : ByteArray), s.size ≤ 9 ∧ (s.size ≤ x + 3) ∧ v = .string s ∧ CurLe wr b A c (M + 1 + s.size) xs ∧ w.grownBy wr (some b)) (fun v _ => match v with | .string s => 20 - s.size | _ => 0)
  case atStart => exact ⟨.empty, by decide, by simp, rfl, HC1.out, HG1.out⟩
  case round =>
    clear HC1 HG1
    obtain ⟨s, hs, hsx, rfl, hc, hg⟩ := hrel
    by_cases hlt : (s.size : Int) < 1 + (x : Int)
    · have hc2 := hc.below ((Below.refl _ _).alloc (Nat.le_refl _) (.cells (strs wordTexts).toArray 9))
      have hg2 := grownBy_alloc hg (.cells (strs wordTexts).toArray 9)
      have hrow := row_strs wr wordTexts
      have hbl := hc.lt
      have HC2 := Lib.hid hc2
      have HG2 := Lib.hid hg2
      have HROW := Lib.hid hrow
      clear hc hg hc2 hg2 hrow
      go_wp2_with fail
      refine (of_any wordTexts wr.heap.size _ b c (M + 1 + s.size) A xs _ HC2.out (by omega) hxs HROW.out (by omega) (by decide) (by decide)).mono ?_
      rintro e w3 ⟨⟨t, ht, rfl⟩, hc3, hg3⟩
      obtain ⟨t1, t3⟩ := wordTexts_size t ht
      have HC3 : Hid (CurLe w3 b A c (M + 1 + (s ++ t).size) xs) := hc3.more (by rw [ByteArray.size_append]; omega)
      have HG3 := Lib.hid (grownBy_trans HG2.out hg3)
      have hlen : ¬ (9223372036854775807 : Nat) < s.size + t.size := by omega
      clear hc3 hg3
      go_wp2
      go_roundw
      case rel => exact ⟨s ++ t, by rw [ByteArray.size_append]; omega, by rw [ByteArray.size_append]; omega, rfl, HC3.out, HG3.out⟩
      case measure => show 20 - (s ++ t).size < 20 - s.size; rw [ByteArray.size_append]; omega
    · go_wp2
      go_ret
      exact ⟨⟨s, hs, rfl⟩, hc.more (by omega), hg⟩

def oddTexts : List ByteArray := [⟨#[]⟩, ⟨#[65]⟩, ⟨#[97, 32, 98]⟩, ⟨#[97, 45, 98]⟩]
theorem oddTexts_size : ∀ s ∈ oddTexts, s.size ≤ 3 := by
  intro s hs
  simp only [oddTexts, List.mem_cons, List.not_mem_nil, or_false] at hs
  rcases hs with rfl | rfl | rfl | rfl <;> decide

set_option maxRecDepth 100000 in
theorem anyWord_any (b c M : Nat) (A : Option Addr) (xs : List UInt8) (w : World) (hc : CurLe w b A c M xs) (hat : M ≤ 999980) (hxs : xs.length ≤ maxLen) :
    Calls Tryd.prog 90 #[.pointer (some ⟨b, 0, none⟩)] w fun e w' => (∃ s : ByteArray, s.size ≤ 20 ∧ e = .returned (.string s)) ∧ CurLe w' b A c (M + 11) xs ∧ w.grownBy w' (some b) := by
  have HC := Lib.hid hc; clear hc
  go_enter Tryd.func90, Tryd.ntmps90
  go_wp2_with fail
  refine (pick_any 30 b c M A xs w HC.out (by omega) hxs (by omega) (by omega)).mono ?_
  rintro e w1 ⟨⟨x, hx, rfl⟩, hc1, hg1⟩
  have hbl := hc1.lt
  have HC1 := Lib.hid hc1
  have HG1 := Lib.hid hg1
  clear hc1 hg1
  rcases (by omega : x = 0 ∨ x = 1 ∨ x = 2 ∨ 3 ≤ x) with rfl | rfl | rfl | h3
  · have HC2 := Lib.hid (HC1.out.below ((Below.refl _ _).alloc (Nat.le_refl _) (.cells (strs oddTexts).toArray 9)))
    have HG2 := Lib.hid (grownBy_alloc HG1.out (.cells (strs oddTexts).toArray 9))
    have HROW := Lib.hid (row_strs w1 oddTexts)
    go_wp2_with fail
    refine (of_any oddTexts w1.heap.size _ b c (M + 1) A xs _ HC2.out (by omega) hxs HROW.out (by omega) (by decide) (by decide)).mono ?_
    rintro e w3 ⟨⟨t, ht, rfl⟩, hc3, hg3⟩
    have ht3 := oddTexts_size t ht
    have HC3 := Lib.hid hc3
    have HG3 := Lib.hid (grownBy_trans HG2.out hg3)
    clear hc3 hg3
    go_wp2
    go_ret
    exact ⟨⟨t, by omega, rfl⟩, HC3.out.more (by omega), HG3.out⟩
  · go_wp2_with fail
    refine (pick_any 2 b c (M + 1) A xs w1 HC1.out (by omega) hxs (by omega) (by omega)).mono ?_
    rintro e w2 ⟨⟨y, hy, rfl⟩, hc2, hg2⟩
    have HC2 := Lib.hid hc2
    have HG2 := Lib.hid (grownBy_trans HG1.out hg2)
    have hy1 : (y : Int) < 2 := by omega
    clear hc2 hg2
    go_wp2
    go_loopw [3] (fun v wr => ∃ (s : ByteArray), s.size ≤ 17 ∧ v = .string s ∧ wr = w2) (fun v _ => match v with | .string s => 20 - s.size | _ => 0)
    case atStart => exact ⟨.empty, by decide, rfl, rfl⟩
    case round =>
      obtain ⟨s, hs, rfl, rfl⟩ := hrel
      by_cases hlt : (s.size : Int) < 16 + (y : Int)
      · have hlen : ¬ (9223372036854775807 : Nat) < s.size + 1 := by omega
        go_wp2
        go_roundw
        case rel => exact ⟨s ++ ⟨#[97]⟩, by rw [ByteArray.size_append]; show s.size + 1 ≤ 17; omega, rfl, by first | rfl | trivial⟩
        case measure => show 20 - (s ++ ⟨#[97]⟩).size < 20 - s.size; rw [ByteArray.size_append]; show 20 - (s.size + 1) < _; omega
      · go_wp2
        go_ret
        exact ⟨⟨s, by omega, rfl⟩, HC2.out.more (by omega), HG2.out⟩
  · go_wp2_with fail
    refine (word_any b c (M + 1) A xs w1 HC1.out (by omega) hxs).mono ?_
    rintro e w2 ⟨⟨s, hs, rfl⟩, hc2, hg2⟩
    have HC2 := Lib.hid hc2
    have HG2 := Lib.hid (grownBy_trans HG1.out hg2)
    have hlen : ¬ (9223372036854775807 : Nat) < s.size + 1 := by omega
    clear hc2 hg2
    go_wp2
    go_ret
    exact ⟨⟨s ++ ⟨#[122]⟩, by rw [ByteArray.size_append]; show s.size + 1 ≤ 20; omega, rfl⟩, HC2.out.more (by omega), HG2.out⟩
  · have e0 : ((x : Int) == 0) = false := by rw [beq_eq_false_iff_ne]; omega
    have e1 : ((x : Int) == 1) = false := by rw [beq_eq_false_iff_ne]; omega
    have e2 : ((x : Int) == 2) = false := by rw [beq_eq_false_iff_ne]; omega
    go_wp2_with fail
    refine (word_any b c (M + 1) A xs w1 HC1.out (by omega) hxs).mono ?_
    rintro e w2 ⟨⟨s, hs, rfl⟩, hc2, hg2⟩
    have HC2 := Lib.hid hc2
    have HG2 := Lib.hid (grownBy_trans HG1.out hg2)
    clear hc2 hg2
    go_wp2
    go_ret
    exact ⟨⟨s, by omega, rfl⟩, HC2.out.more (by omega), HG2.out⟩
end Go.Proofs.YtcbhhbcfnaekpaaDoor
