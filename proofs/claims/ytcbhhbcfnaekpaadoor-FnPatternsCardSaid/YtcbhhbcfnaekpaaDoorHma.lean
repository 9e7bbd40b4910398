import Derived.Test.YtcbhhbcfnaekpaaDoorHyh
import Derived.Test.YtcbhhbcfnaekpaaDoorCur
import Derived.Test.YtcbhhbcfnaekpaaDoorHyc
/-
  The draws of chapter 11, first part: what the cursor keeps; l1Cur.among, pattern, breaking: bounds alone. (For FnHyphens and FnPatterns.)
-/
namespace Go.Proofs.YtcbhhbcfnaekpaaDoor
open Go.RowKit
set_option linter.unusedVariables false

theorem cell_keepH {w w' : World} {b' i : Nat} {row : Option Nat} (hg : w.grownBy w' row) (h : b' < w.heap.size) (hne : row ≠ some b') : w'.cell? ⟨b', i, none⟩ = w.cell? ⟨b', i, none⟩ := by
  have := hg.block b' h (fun e => hne e.symm)
  unfold World.cell?
  rw [this]
theorem grownBy_ownH {w wr w4 : World} {b : Nat} {row : Option Nat} (h : w.grownBy wr (some b)) (hg : wr.grownBy w4 row) (hrow : ∀ k, row = some k → w.heap.size ≤ k) : w.grownBy w4 (some b) :=
  ⟨hg.os.trans h.os, hg.tape.trans h.tape, hg.output.trans h.output, Nat.le_trans h.size hg.size, fun i hi hne => (hg.block i (Nat.lt_of_lt_of_le hi h.size) (fun e => by have := hrow i e.symm; omega)).trans (h.block i hi hne)⟩
theorem CurLe.ownH {w w' : World} {b c M : Nat} {A : Option Addr} {xs : List UInt8} {row : Option Nat} (h : CurLe w b A c M xs) (hg : w.grownBy w' row) (hrow : ∀ k, row = some k → b < k) : CurLe w' b A c M xs := by
  have hl := h.lt
  obtain ⟨⟨a, h0, sd, h1, h1'⟩, h2⟩ := h
  refine ⟨⟨a, h0, sd, h1, (hg.block b hl (fun e => by have := hrow b e.symm; omega)).trans h1'⟩, fun hn => ?_⟩
  obtain ⟨b', off, e, hlt, hc⟩ := h2 hn
  exact ⟨b', off, e, hlt, fun k hk => (cell_keepH hg (by omega) (fun e => by have := hrow b' e; omega)).trans (hc k hk)⟩
theorem row_intsH (w : World) (l : List Int) : IntsIn (w.alloc (.cells (intsZ l).toArray 3)) (some ⟨w.heap.size, 0, none⟩) l := fun hn =>
  ⟨w.heap.size, 0, rfl, by simp, fun k hk => by
    rw [cell_of_heap (heap_new _ _)]
    simp [intsZ, hk]⟩
set_option maxRecDepth 100000 in
theorem among_any (l : List Int) (g c' : Nat) (b c M : Nat) (A : Option Addr) (xs : List UInt8) (w : World) (hc : CurLe w b A c M xs) (hat : M ≤ 1000000) (hxs : xs.length ≤ maxLen) (hl : IntsIn w (some ⟨g, 0, none⟩) l) (hne : g ≠ b) (h1 : 1 ≤ l.length) (h2 : l.length ≤ 200) :
    Calls Tryd.prog 59 #[.pointer (some ⟨b, 0, none⟩), .slice (some ⟨g, 0, none⟩) l.length c'] w fun e w' => (∃ s, s ∈ l ∧ e = .returned (.int .i64 s)) ∧ CurLe w' b A c (M + 1) xs ∧ w.grownBy w' (some b) := by
  have HC := Lib.hid hc; clear hc
  have HL := Lib.hid hl; clear hl
  go_enter Tryd.func59, Tryd.ntmps59
  go_wp2_with fail
  refine (pick_any l.length b c M A xs w HC.out hat hxs h1 h2).mono ?_
  rintro e w1 ⟨⟨x, hx, rfl⟩, hc1, hg1⟩
  obtain ⟨b', off, e, hbl, hcs⟩ := HL.out (by omega)
  obtain ⟨rfl, rfl⟩ : g = b' ∧ 0 = off := by simpa using e
  have hx0 := (cell_keepH hg1 hbl (fun e => hne (Option.some.inj e).symm)).trans (hcs x hx)
  rw [Nat.zero_add] at hx0
  have HC1 := Lib.hid hc1
  have HG1 := Lib.hid hg1
  have hbl1 : g < w1.heap.size := Nat.lt_of_lt_of_le hbl hg1.size
  have hx1 : (x : Int) < (l.length : Int) := by omega
  clear hc1 hg1 hcs e
  go_wp2
  go_ret
  exact ⟨⟨l[x], List.getElem_mem _, rfl⟩, HC1.out, HG1.out⟩
def allLe (l : List ByteArray) (n : Nat) : Bool := l.all fun s => decide (s.size ≤ n)
theorem allLe_mem {l : List ByteArray} {n : Nat} (h : allLe l n = true) {s : ByteArray} (hs : s ∈ l) : s.size ≤ n := by
  unfold allLe at h; rw [List.all_eq_true] at h; exact of_decide_eq_true (h s hs)
def patA : List ByteArray := [⟨#[]⟩, ⟨#[]⟩, ⟨#[49]⟩, ⟨#[50]⟩, ⟨#[51]⟩]
def patC : List ByteArray := [⟨#[97]⟩, ⟨#[98]⟩, ⟨#[99]⟩, ⟨#[100]⟩]
def patO : List ByteArray := [⟨#[]⟩, ⟨#[49]⟩, ⟨#[49, 49, 97]⟩, ⟨#[97, 49, 98, 49]⟩, ⟨#[48, 97]⟩, ⟨#[97, 98]⟩, ⟨#[97, 98, 99, 100, 101, 102, 49]⟩, ⟨#[97, 98, 99, 100, 101, 102, 103, 49]⟩, ⟨#[65, 49]⟩, ⟨#[57, 97, 57]⟩]
def patE : List ByteArray := [⟨#[49]⟩, ⟨#[49]⟩, ⟨#[50]⟩, ⟨#[51]⟩]
def brkT : List ByteArray := [⟨#[97]⟩, ⟨#[98]⟩, ⟨#[99]⟩, ⟨#[100]⟩, ⟨#[97, 98]⟩, ⟨#[98, 97]⟩]
theorem brkT_one : ∀ s ∈ brkT, 1 ≤ s.size := by
  intro s hs
  simp only [brkT, List.mem_cons, List.not_mem_nil, or_false] at hs
  rcases hs with rfl | rfl | rfl | rfl | rfl | rfl <;> decide
set_option maxRecDepth 100000 in
set_option maxHeartbeats 1000000 in
theorem pattern_any (b c M : Nat) (A : Option Addr) (xs : List UInt8) (w : World) (hc : CurLe w b A c M xs) (hat : M ≤ 999900) (hxs : xs.length ≤ maxLen) :
    Calls Tryd.prog 78 #[.pointer (some ⟨b, 0, none⟩)] w fun e w' => (∃ s : ByteArray, s.size ≤ 20 ∧ e = .returned (.string s)) ∧ CurLe w' b A c (M + 9) xs ∧ w.grownBy w' (some b) := by
  have HC := Lib.hid hc; clear hc
  go_enter Tryd.func78, Tryd.ntmps78
  go_wp2_with fail
  refine (pick_any 3 b c M A xs w HC.out (by omega) hxs (by omega) (by omega)).mono ?_
  rintro e w1 ⟨⟨x, hx, rfl⟩, hc1, hg1⟩
  have HC1 : Hid (CurLe w1 b A c (M + 7 - 2 * (1 + x)) xs) := Lib.hid (hc1.more (by omega))
  have HG1 := Lib.hid hg1
  clear hc1 hg1 HC
  go_wp2
  go_loopw [3, 4] (fun v i wr => ∃ (s : ByteArray) (m : Nat), m ≤ 3 ∧ s.size + 2 * m ≤ 6 ∧ v = .string s ∧ i = .int .i64 (m : Int) ∧ Hid (CurLe wr b A c (M + 7 - 2 * m) xs) ∧ Hid (w.grownBy wr (some b))) (fun _ i _ => (intOf i).toNat)
  case atStart => exact ⟨.empty, 1 + x, by omega, by show 0 + 2 * (1 + x) ≤ 6; omega, rfl, by simp, HC1, HG1⟩
  case round =>
    clear HC1 HG1
    obtain ⟨s, m, hm, hs, rfl, rfl, HC, HG⟩ := hrel
    by_cases hlt : 0 < m
    · have hlt' : (0 : Int) < (m : Int) := by omega
      have HCa5 := Lib.hid (HC.out.below ((Below.refl _ _).alloc (Nat.le_refl _) (.cells (strs patA).toArray 9)))
      have HGa5 := Lib.hid (grownBy_alloc HG.out (.cells (strs patA).toArray 9))
      have HRa5 := Lib.hid (row_strs wr patA)
      have hba5 := HC.out.lt
      go_wp2_with fail
      refine (of_any patA (wr).heap.size _ b c (M + 7 - 2 * m) A xs _ HCa5.out (by omega) hxs HRa5.out (by omega) (by decide) (by decide)).mono ?_
      rintro e v5 ⟨⟨t5, ht5, rfl⟩, hc5, hg5⟩
      have HC5 := Lib.hid hc5
      have HG5 := Lib.hid (grownBy_trans HGa5.out hg5)
      clear hc5 hg5 HCa5 HGa5 HRa5 hba5
      have h5 := allLe_mem (n := 1) (by decide) ht5
      have HCa6 := Lib.hid (HC5.out.below ((Below.refl _ _).alloc (Nat.le_refl _) (.cells (strs patC).toArray 9)))
      have HGa6 := Lib.hid (grownBy_alloc HG5.out (.cells (strs patC).toArray 9))
      have HRa6 := Lib.hid (row_strs v5 patC)
      have hba6 := HC5.out.lt
      go_wp2_with fail
      refine (of_any patC (v5).heap.size _ b c (M + 7 - 2 * m + 1) A xs _ HCa6.out (by omega) hxs HRa6.out (by omega) (by decide) (by decide)).mono ?_
      rintro e v6 ⟨⟨t6, ht6, rfl⟩, hc6, hg6⟩
      have HC6 := Lib.hid hc6
      have HG6 := Lib.hid (grownBy_trans HGa6.out hg6)
      clear hc6 hg6 HCa6 HGa6 HRa6 hba6
      have h6 := allLe_mem (n := 1) (by decide) ht6
      have HC7 : Hid (CurLe v6 b A c (M + 7 - 2 * (m - 1)) xs) := Lib.hid (HC6.out.more (by omega))
      have hl1 : (t5 ++ t6).size = t5.size + t6.size := ByteArray.size_append
      have hl2 : (s ++ (t5 ++ t6)).size = s.size + (t5.size + t6.size) := by rw [ByteArray.size_append, ByteArray.size_append]
      have hla : ¬ (9223372036854775807 : Nat) < t5.size + t6.size := by omega
      have hlb : ¬ (9223372036854775807 : Nat) < s.size + (t5.size + t6.size) := by omega
      go_wp2
      go_roundw
      case rel => exact ⟨s ++ (t5 ++ t6), m - 1, by omega, by omega, rfl, by congr 1; omega, HC7, HG6⟩
      case measure => simp [intOf]; omega
    · obtain rfl : m = 0 := by omega
      go_wp2_with fail
      refine (pick_any 30 b c (M + 7) A xs wr (HC.out.more (by omega)) (by omega) hxs (by omega) (by omega)).mono ?_
      rintro e w5 ⟨⟨y, hy, rfl⟩, hc5, hg5⟩
      have HC5 := Lib.hid hc5
      have HG5 := Lib.hid (grownBy_trans HG.out hg5)
      clear hc5 hg5 HC HG
      rcases (by omega : y = 0 ∨ y = 1 ∨ 2 ≤ y) with rfl | rfl | h2
      · skip
        have HCa6 := Lib.hid (HC5.out.below ((Below.refl _ _).alloc (Nat.le_refl _) (.cells (strs patO).toArray 9)))
        have HGa6 := Lib.hid (grownBy_alloc HG5.out (.cells (strs patO).toArray 9))
        have HRa6 := Lib.hid (row_strs w5 patO)
        have hba6 := HC5.out.lt
        go_wp2_with fail
        refine (of_any patO (w5).heap.size _ b c (M + 7 + 1) A xs _ HCa6.out (by omega) hxs HRa6.out (by omega) (by decide) (by decide)).mono ?_
        rintro e v6 ⟨⟨t6, ht6, rfl⟩, hc6, hg6⟩
        have HC6 := Lib.hid hc6
        have HG6 := Lib.hid (grownBy_trans HGa6.out hg6)
        clear hc6 hg6 HCa6 HGa6 HRa6 hba6
        have h6 := allLe_mem (n := 8) (by decide) ht6
        go_wp2
        go_ret
        exact ⟨⟨t6, by omega, rfl⟩, HC6.out.more (by omega), HG6.out⟩
      · go_wp2
        go_ret
        exact ⟨⟨s, by omega, rfl⟩, HC5.out.more (by omega), HG5.out⟩
      · have e0 : ((y : Int) == 0) = false := by rw [beq_eq_false_iff_ne]; omega
        have e1 : ((y : Int) == 1) = false := by rw [beq_eq_false_iff_ne]; omega
        have HCa6 := Lib.hid (HC5.out.below ((Below.refl _ _).alloc (Nat.le_refl _) (.cells (strs patE).toArray 9)))
        have HGa6 := Lib.hid (grownBy_alloc HG5.out (.cells (strs patE).toArray 9))
        have HRa6 := Lib.hid (row_strs w5 patE)
        have hba6 := HC5.out.lt
        go_wp2_with fail
        refine (of_any patE (w5).heap.size _ b c (M + 7 + 1) A xs _ HCa6.out (by omega) hxs HRa6.out (by omega) (by decide) (by decide)).mono ?_
        rintro e v6 ⟨⟨t6, ht6, rfl⟩, hc6, hg6⟩
        have HC6 := Lib.hid hc6
        have HG6 := Lib.hid (grownBy_trans HGa6.out hg6)
        clear hc6 hg6 HCa6 HGa6 HRa6 hba6
        have h6 := allLe_mem (n := 1) (by decide) ht6
        have hla : ¬ (9223372036854775807 : Nat) < s.size + t6.size := by omega
        go_wp2
        go_ret
        exact ⟨⟨s ++ t6, by rw [ByteArray.size_append]; omega, rfl⟩, HC6.out.more (by omega), HG6.out⟩
set_option maxRecDepth 100000 in
set_option maxHeartbeats 1000000 in
theorem breaking_any (b c M : Nat) (A : Option Addr) (xs : List UInt8) (w : World) (hc : CurLe w b A c M xs) (hat : M ≤ 999900) (hxs : xs.length ≤ maxLen) :
    Calls Tryd.prog 64 #[.pointer (some ⟨b, 0, none⟩)] w fun e w' => (∃ s : ByteArray, s.size ≤ 20 ∧ e = .returned (.string s)) ∧ CurLe w' b A c (M + 20) xs ∧ w.grownBy w' (some b) := by
  have HC := Lib.hid hc; clear hc
  go_enter Tryd.func64, Tryd.ntmps64
  go_wp2_with fail
  refine (one_any 12 b c M A xs w HC.out (by omega) hxs (by omega) (by omega)).mono ?_
  rintro e w1 ⟨⟨r, rfl⟩, hc1, hg1⟩
  have HC1 := Lib.hid hc1
  have HG1 := Lib.hid hg1
  clear hc1 hg1 HC
  cases r
  rotate_left
  · go_wp2_with fail
    refine (anyWord_any b c (M + 1) A xs w1 HC1.out (by omega) hxs).mono ?_
    rintro e w2 ⟨⟨s, hs, rfl⟩, hc2, hg2⟩
    have HG2 := Lib.hid (grownBy_trans HG1.out hg2)
    have HC2 := Lib.hid hc2
    clear hc2 hg2
    go_wp2
    go_ret
    exact ⟨⟨s, hs, rfl⟩, HC2.out.more (by omega), HG2.out⟩
  go_wp2_with fail
  refine (pick_any 8 b c (M + 1) A xs w1 HC1.out (by omega) hxs (by omega) (by omega)).mono ?_
  rintro e w2 ⟨⟨x, hx, rfl⟩, hc2, hg2⟩
  have HC2 := Lib.hid hc2
  have HG2 := Lib.hid (grownBy_trans HG1.out hg2)
  have hx1 : (x : Int) < 8 := by omega
  clear hc2 hg2 HC1 HG1
  go_wp2
  go_loopw [3] (fun v wr => ∃ (s : ByteArray), s.size ≤ x + 3 ∧ v = .string s ∧ Hid (CurLe wr b A c (M + 1 + 1 + s.size) xs) ∧ Hid (w.grownBy wr (some b))) (fun v _ => match v with | .string s => 20 - s.size | _ => 0)
  case atStart => exact ⟨.empty, by simp, rfl, HC2, HG2⟩
  case round =>
    clear HC2 HG2
    obtain ⟨s, hs, rfl, HC, HG⟩ := hrel
    by_cases hlt : (s.size : Int) < 2 + (x : Int)
    · skip
      have HCa5 := Lib.hid (HC.out.below ((Below.refl _ _).alloc (Nat.le_refl _) (.cells (strs brkT).toArray 9)))
      have HGa5 := Lib.hid (grownBy_alloc HG.out (.cells (strs brkT).toArray 9))
      have HRa5 := Lib.hid (row_strs wr brkT)
      have hba5 := HC.out.lt
      go_wp2_with fail
      refine (of_any brkT (wr).heap.size _ b c (M + 1 + 1 + s.size) A xs _ HCa5.out (by omega) hxs HRa5.out (by omega) (by decide) (by decide)).mono ?_
      rintro e v5 ⟨⟨t5, ht5, rfl⟩, hc5, hg5⟩
      have HC5 := Lib.hid hc5
      have HG5 := Lib.hid (grownBy_trans HGa5.out hg5)
      clear hc5 hg5 HCa5 HGa5 HRa5 hba5
      have h5 := allLe_mem (n := 2) (by decide) ht5
      have h51 := brkT_one _ ht5
      have hl2 : (s ++ t5).size = s.size + t5.size := ByteArray.size_append
      have HC7 : Hid (CurLe v5 b A c (M + 1 + 1 + (s ++ t5).size) xs) := Lib.hid (HC5.out.more (by rw [hl2]; omega))
      have hla : ¬ (9223372036854775807 : Nat) < s.size + t5.size := by omega
      clear hl2
      go_wp2
      go_roundw
      case rel => exact ⟨s ++ t5, by rw [ByteArray.size_append]; omega, rfl, HC7, HG5⟩
      case measure => show 20 - (s ++ t5).size < 20 - s.size; rw [ByteArray.size_append]; omega
    · go_wp2
      go_ret
      exact ⟨⟨s, by omega, rfl⟩, HC.out.more (by omega), HG.out⟩
end Go.Proofs.YtcbhhbcfnaekpaaDoor

/-
  The draws of chapter 11, second part: l1Cur.exception, exceptions, patterns: bounds alone.
-/
namespace Go.Proofs.YtcbhhbcfnaekpaaDoor
open Go.RowKit
set_option linter.unusedVariables false

theorem decode_one (s : ByteArray) (pos : Nat) (h : pos < s.size) : 1 ≤ (Utf8.decode s pos).2 := by
  rcases Nat.lt_or_ge (s[pos]'h).toNat 128 with ha | ha
  · rw [decode_ascii s pos h ha]; exact Nat.le_refl _
  · exact (decode_high s pos h ha).2
def excO : List ByteArray := [⟨#[]⟩, ⟨#[97]⟩, ⟨#[45, 97, 98]⟩, ⟨#[97, 98, 45]⟩, ⟨#[97, 45, 45, 98]⟩, ⟨#[65, 45, 98]⟩, ⟨#[97, 98, 99, 100, 101, 102, 103, 104, 105, 106, 107, 108, 109, 110, 111, 112]⟩, ⟨#[97, 98, 99, 100, 101, 102, 103, 104, 105, 106, 107, 108, 109, 110, 111, 112, 113]⟩]
theorem CurLe.iterH {w : World} {b c M k pos : Nat} {A : Option Addr} {xs : List UInt8} {s : ByteArray} (h : CurLe w b A c M xs) (hk : b < k) : CurLe (w.iterAt k s pos) b A c M xs :=
  h.ownH (row := some k) ⟨rfl, rfl, rfl, by rw [Lib.iterAt_size]; exact Nat.le_refl _, fun j _ hne => Lib.iterAt_other w k j s pos (fun e => hne (by rw [e]))⟩ (fun q hq => by cases hq; exact hk)
set_option maxRecDepth 100000 in
set_option maxHeartbeats 2000000 in
theorem exception_any (wd : ByteArray) (b c M : Nat) (A : Option Addr) (xs : List UInt8) (w : World) (hc : CurLe w b A c M xs) (hat : M ≤ 999900) (hxs : xs.length ≤ maxLen) (h20 : wd.size ≤ 20) :
    Calls Tryd.prog 72 #[.pointer (some ⟨b, 0, none⟩), .string wd] w fun e w' => (∃ s : ByteArray, s.size ≤ 40 ∧ e = .returned (.string s)) ∧ CurLe w' b A c (M + 22) xs ∧ w.grownBy w' (some b) := by
  have hbl := hc.lt
  have hb2 : Below w.heap.size w (w.iter wd 0) := (Below.refl _ _).alloc (Nat.le_refl _) _
  have HC : Hid (CurLe (w.iter wd 0) b A c M xs) := Lib.hid (hc.below hb2)
  have HG : Hid (w.grownBy (w.iter wd 0) (some b)) := Lib.hid (grown_below (World.grownBy.refl _ _) hb2)
  have HI : Hid ((w.iter wd 0).heap[w.heap.size]? = some (.stringIter wd 0)) := Lib.hid (World.iter_heap _ _ _)
  clear hc hb2
  go_enter Tryd.func72, Tryd.ntmps72
  go_wp2
  generalize hK : w.heap.size = K0 at *
  have HK0 : Hid (K0 = w.heap.size) := Lib.hid hK.symm
  clear hK
  go_loopw [5] (fun v wi => ∃ (pos r : Nat) (s : ByteArray), r ≤ pos ∧ r ≤ wd.size ∧ s.size ≤ 2 * r ∧ v = .string s ∧ Hid (wi.heap[K0]? = some (.stringIter wd pos)) ∧ Hid (CurLe wi b A c (M + r) xs) ∧ Hid (w.grownBy wi (some b))) (fun _ wi => wd.size - wi.iterPos K0)
  case atStart => exact ⟨0, 0, .empty, Nat.le_refl _, Nat.zero_le _, Nat.le_refl _, rfl, HI, HC, HG⟩
  case round =>
    clear HI HC HG
    obtain ⟨pos, r, s, hrp, hrw, hs, rfl, HIT, HC, HG⟩ := hrel
    by_cases hlp : pos < wd.size
    · have hd := decode_one wd pos hlp
      have hnx : ∀ ty, (Instr.next (.pointer (some ⟨K0, 0, none⟩)) true ty).run Tryd.prog wr = .ok (.tuple #[.bool true, .int .i64 pos, .int .i32 ((Utf8.decode wd pos).1 : Nat)]) (wr.iterAt K0 wd (pos + (Utf8.decode wd pos).2)) := fun ty => Lib.run_next_any_at wr K0 wd pos ty HIT.out hlp
      have HIT1 := Lib.hid (Lib.iterAt_heap wr K0 wd pos (pos + (Utf8.decode wd pos).2) HIT.out)
      have HC1 : Hid (CurLe (wr.iterAt K0 wd (pos + (Utf8.decode wd pos).2)) b A c (M + r) xs) := Lib.hid (HC.out.iterH hbl)
      have HG1 := Lib.hid (grown_iter HG.out (k := K0) (by rw [← HK0.out]; exact Nat.le_refl _) wd (pos + (Utf8.decode wd pos).2))
      have HPM : Hid (wr.iterPos K0 = pos) := Lib.hid (iterPos_of HIT.out)
      generalize (Utf8.decode wd pos).2 = d at *
      generalize (Utf8.decode wd pos).1 = ru at *
      generalize wr.iterAt K0 wd (pos + d) = W1 at *
      clear HIT HC HG
      have hp0 : (0 : Int) ≤ (pos : Int) := by omega
      have hp1 : (pos : Int) + 1 ≤ (wd.size : Int) := by omega
      rcases Nat.eq_zero_or_pos pos with h0 | h0
      · have hgt : decide ((0 : Int) < (pos : Int)) = false := by simp; omega
        have HC2 : Hid (CurLe W1 b A c (M + (r + 1)) xs) := Lib.hid (HC1.out.more (by omega))
        have hl2 : (s ++ wd.extract pos (pos + 1)).size = (s).size + 1 := by rw [ByteArray.size_append, ByteArray.size_extract]; omega
        have hle : (wd.extract pos (pos + 1)).size = 1 := by rw [ByteArray.size_extract]; omega
        have hlb : ¬ (9223372036854775807 : Nat) < (s).size + 1 := by omega
        have HSZ : Hid ((s ++ wd.extract pos (pos + 1)).size ≤ 2 * (r + 1)) := Lib.hid (by rw [hl2]; omega)
        clear hl2
        go_wp2
        go_roundw
        case rel => exact ⟨pos + d, r + 1, s ++ wd.extract pos (pos + 1), by omega, by omega, HSZ.out, (by first | rfl | (subst h0; rfl)), HIT1, HC2, HG1⟩
        case measure => rw [iterPos_of HIT1.out, HPM.out]; omega
      · have hgt : decide ((0 : Int) < (pos : Int)) = true := by simp; omega
        go_wp2_with fail
        refine (one_any 3 b c (M + r) A xs W1 HC1.out (by omega) hxs (by omega) (by omega)).mono ?_
        rintro e W2 ⟨⟨q, rfl⟩, hc2, hg2⟩
        have HIT2 : Hid (W2.heap[K0]? = some (.stringIter wd (pos + d))) := Lib.hid ((hg2.block K0 (lt_of_heap HIT1.out) (fun e => by have := Option.some.inj e; omega)).trans HIT1.out)
        have HC2 : Hid (CurLe W2 b A c (M + (r + 1)) xs) := Lib.hid hc2
        have HG2 := Lib.hid (grownBy_trans HG1.out hg2)
        clear hc2 hg2 HIT1 HC1 HG1 hnx
        cases q
        · skip
          have hl2 : (s ++ wd.extract pos (pos + 1)).size = (s).size + 1 := by rw [ByteArray.size_append, ByteArray.size_extract]; omega
          have hle : (wd.extract pos (pos + 1)).size = 1 := by rw [ByteArray.size_extract]; omega
          have hlb : ¬ (9223372036854775807 : Nat) < (s).size + 1 := by omega
          have HSZ : Hid ((s ++ wd.extract pos (pos + 1)).size ≤ 2 * (r + 1)) := Lib.hid (by rw [hl2]; omega)
          clear hl2
          go_wp2
          go_roundw
          case rel => exact ⟨pos + d, r + 1, s ++ wd.extract pos (pos + 1), by omega, by omega, HSZ.out, (by first | rfl | (subst h0; rfl)), HIT2, HC2, HG2⟩
          case measure => rw [iterPos_of HIT2.out, HPM.out]; omega
        · have hld : (s ++ (⟨#[45]⟩ : ByteArray)).size = s.size + 1 := by rw [ByteArray.size_append]; rfl
          have hla : ¬ (9223372036854775807 : Nat) < s.size + 1 := by omega
          have hl2 : ((s ++ ⟨#[45]⟩) ++ wd.extract pos (pos + 1)).size = ((s ++ ⟨#[45]⟩)).size + 1 := by rw [ByteArray.size_append, ByteArray.size_extract]; omega
          have hle : (wd.extract pos (pos + 1)).size = 1 := by rw [ByteArray.size_extract]; omega
          have hlb : ¬ (9223372036854775807 : Nat) < ((s ++ ⟨#[45]⟩)).size + 1 := by omega
          have HSZ : Hid (((s ++ ⟨#[45]⟩) ++ wd.extract pos (pos + 1)).size ≤ 2 * (r + 1)) := Lib.hid (by rw [hl2]; omega)
          clear hl2
          go_wp2
          go_roundw
          case rel => exact ⟨pos + d, r + 1, (s ++ ⟨#[45]⟩) ++ wd.extract pos (pos + 1), by omega, by omega, HSZ.out, (by first | rfl | (subst h0; rfl)), HIT2, HC2, HG2⟩
          case measure => rw [iterPos_of HIT2.out, HPM.out]; omega
    · have hnx : ∀ ty, (Instr.next (.pointer (some ⟨K0, 0, none⟩)) true ty).run Tryd.prog wr = .ok (.tuple #[.bool false]) wr := fun ty => Lib.run_next_end_at wr K0 wd pos ty HIT.out hlp
      go_wp2_with fail
      refine (one_any 24 b c (M + r) A xs wr HC.out (by omega) hxs (by omega) (by omega)).mono ?_
      rintro e W2 ⟨⟨q, rfl⟩, hc2, hg2⟩
      have HC2 : Hid (CurLe W2 b A c (M + r + 1) xs) := Lib.hid hc2
      have HG2 := Lib.hid (grownBy_trans HG.out hg2)
      clear hc2 hg2 hnx HC HG HIT
      cases q
      · go_wp2
        go_ret
        exact ⟨⟨s, by omega, rfl⟩, HC2.out.more (by omega), HG2.out⟩
      · skip
        have HCa6 := Lib.hid (HC2.out.below ((Below.refl _ _).alloc (Nat.le_refl _) (.cells (strs excO).toArray 9)))
        have HGa6 := Lib.hid (grownBy_alloc HG2.out (.cells (strs excO).toArray 9))
        have HRa6 := Lib.hid (row_strs W2 excO)
        have hba6 := HC2.out.lt
        go_wp2_with fail
        refine (of_any excO (W2).heap.size _ b c (M + r + 1) A xs _ HCa6.out (by omega) hxs HRa6.out (by omega) (by decide) (by decide)).mono ?_
        rintro e v6 ⟨⟨t6, ht6, rfl⟩, hc6, hg6⟩
        have HC6 := Lib.hid hc6
        have HG6 := Lib.hid (grownBy_trans HGa6.out hg6)
        clear hc6 hg6 HCa6 HGa6 HRa6 hba6
        have h6 := allLe_mem (n := 17) (by decide) ht6
        go_wp2
        go_ret
        exact ⟨⟨t6, by omega, rfl⟩, HC6.out.more (by omega), HG6.out⟩
end Go.Proofs.YtcbhhbcfnaekpaaDoor

/-
  The draws of chapter 11, third part: l1Cur.patterns, exceptions: bounds alone.
-/
namespace Go.Proofs.YtcbhhbcfnaekpaaDoor
open Go.RowKit
set_option linter.unusedVariables false

def sLenH : Value → Nat | .slice _ n _ => n | _ => 0
/-- Texts of at most 40 letters. -/
def Le40 (l : List ByteArray) : Prop := ∀ s ∈ l, s.size ≤ 40
theorem Le40.snoc {l : List ByteArray} {s : ByteArray} (h : Le40 l) (hs : s.size ≤ 40) : Le40 (l ++ [s]) := fun x hx => by
  rcases List.mem_append.1 hx with h1 | h1
  · exact h x h1
  · simp at h1; subst h1; exact hs
/-- What the draw of a list leaves. -/
def LsTo (b c M : Nat) (A : Option Addr) (xs : List UInt8) (w w' : World) (e : Ending) : Prop :=
  (∃ (l : List ByteArray) (B : Option Addr) (d : Nat), e = .returned (.slice B l.length d) ∧ l.length ≤ 22 ∧ Le40 l ∧ w'.ownsRow w.heap.size 9 1 (.slice B l.length d) l.length (strs l)) ∧ CurLe w' b A c M xs ∧ w.grownBy w' (some b)
set_option maxRecDepth 100000 in
set_option maxHeartbeats 2000000 in
theorem patterns_any (b c M : Nat) (A : Option Addr) (xs : List UInt8) (w : World) (hc : CurLe w b A c M xs) (hat : M ≤ 999000) (hxs : xs.length ≤ maxLen) :
    Calls Tryd.prog 63 #[.pointer (some ⟨b, 0, none⟩)] w fun e w' => LsTo b c (M + 200) A xs w w' e := by
  have hbl := hc.lt
  have HC := Lib.hid hc; clear hc
  obtain ⟨i0, hi, hz0, hz1, hz2⟩ := info_parts info9
  have HI0 := Lib.hid hi; have HZ0 := Lib.hid hz0; have HZ1 := Lib.hid hz1; have HZ2 := Lib.hid hz2
  clear hi hz0 hz1 hz2
  go_enter Tryd.func63, Tryd.ntmps63
  go_wp2_with fail
  refine (pick_any 6 b c M A xs w HC.out (by omega) hxs (by omega) (by omega)).mono ?_
  rintro e w1 ⟨⟨x, hx, rfl⟩, hc1, hg1⟩
  have HC1 := Lib.hid hc1; have HG1 := Lib.hid hg1
  clear hc1 hg1 HC
  go_wp2_with fail
  refine (one_any 16 b c (M + 1) A xs w1 HC1.out (by omega) hxs (by omega) (by omega)).mono ?_
  rintro e w2 ⟨⟨r, rfl⟩, hc2, hg2⟩
  have HC2 := Lib.hid hc2; have HG2 := Lib.hid (grownBy_trans HG1.out hg2)
  clear hc2 hg2 HC1 HG1
  cases r
  · have HC3 : Hid (CurLe w2 b A c (M + 3 + 9 * 0) xs) := Lib.hid (HC2.out.more (by omega))
    have HG3 := HG2
    clear HC2 HG2
    obtain ⟨n, hn⟩ : ∃ n : Nat, n = x := ⟨_, rfl⟩
    have hn21 : n ≤ 21 := by omega
    rw [← hn]
    clear hx hn
    go_wp2
    go_loopw [3] (fun v wr => ∃ (l : List ByteArray) (B : Option Addr) (d : Nat), l.length ≤ n ∧ v = .slice B l.length d ∧ Hid (Le40 l) ∧ Hid (wr.ownsRow w.heap.size 9 1 (.slice B l.length d) l.length (strs l)) ∧ Hid (CurLe wr b A c (M + 3 + 9 * l.length) xs) ∧ Hid (w.grownBy wr (some b))) (fun v _ => n - sLenH v)
    case atStart => exact ⟨[], none, 0, Nat.zero_le _, rfl, Lib.hid (fun s h => absurd h (by simp)), Lib.hid (own_nil _ _ _ _), HC3, HG3⟩
    case round =>
      clear HC3 HG3
      obtain ⟨l, B, d, hl, rfl, HS, HO, HC, HG⟩ := hrel
      by_cases hlt : l.length < n
      · go_wp2_with fail
        refine (pattern_any b c (M + 3 + 9 * l.length) A xs wr HC.out (by omega) hxs).mono ?_
        rintro e w5 ⟨⟨s, hs9, rfl⟩, hc5, hg5⟩
        have HO5 := Lib.hid (own_grown HO.out hg5 (fun k hk e => by have := own_lt HO.out k hk; have := Option.some.inj e; omega))
        have HG5 := Lib.hid (grownBy_trans HG.out hg5)
        have HC5 := Lib.hid hc5
        have hsz5 : w.heap.size ≤ w5.heap.size := HG5.out.size
        have hmx : l.length + 1 ≤ maxLen := by unfold maxLen; omega
        clear hc5 hg5 HO HG HC
        go_wp2_with (at_builtin; refine wpList_append_own _ rfl _ _ 23 rfl w.heap.size 9 i0 (.string .empty) 1 16 Tryd.underlying23 HI0.out HZ0.out HZ1.out HZ2.out rfl (by decide) _ _ _ rfl (HO5.out.alloc _) ⟨w5.heap.size, 0, none⟩ 1 1 [.string s] rfl rfl (cell_one_new _ _ _) (by simp [Value.oneCell']) hmx (by omega) (by simp; omega) ?_)
        intro v' w6 hown' hgrow _
        have hrw := own_lt HO5.out
        have hal : w5.grownBy (w5.alloc (.cells #[.string s] 9)) (some b) := grownBy_alloc (World.grownBy.refl _ _) _
        have HC6 := Lib.hid ((HC5.out.below ((Below.refl _ _).alloc (Nat.le_refl _) (.cells #[.string s] 9))).ownH hgrow (fun k hk => by have := hrw k hk; omega))
        have HG6 := Lib.hid (grownBy_ownH (grownBy_trans HG5.out hal) hgrow (fun k hk => by have := hrw k hk; omega))
        have ho6 : w6.ownsRow w.heap.size 9 1 v' (l ++ [s]).length (strs (l ++ [s])) := by rw [List.length_append, strs_snoc]; exact hown'
        obtain ⟨B', d', hv6⟩ := own_shape ho6
        subst hv6
        have HO6 := Lib.hid ho6
        have HS6 := Lib.hid (HS.out.snoc (s := s) (by omega))
        have HL6 : Hid ((l ++ [s]).length = l.length + 1) := Lib.hid (by simp)
        clear hown' hgrow HO5 hal ho6
        go_wp2
        go_roundw
        case rel => exact ⟨l ++ [s], B', d', by rw [HL6.out]; omega, rfl, HS6, HO6, Lib.hid (HC6.out.more (by rw [HL6.out]; omega)), HG6⟩
        case measure => simp [sLenH]; omega
      · have hln : l.length = n := by omega
        go_wp2
        go_ret
        exact ⟨⟨l, B, d, rfl, by omega, HS.out, HO.out⟩, HC.out.more (by omega), HG.out⟩
  · go_wp2_with fail
    refine (pick_any 2 b c (M + 2) A xs w2 HC2.out (by omega) hxs (by omega) (by omega)).mono ?_
    rintro e w3 ⟨⟨y, hy, rfl⟩, hc3, hg3⟩
    have HC3 : Hid (CurLe w3 b A c (M + 3 + 9 * 0) xs) := Lib.hid (hc3.more (by omega))
    have HG3 := Lib.hid (grownBy_trans HG2.out hg3)
    clear hc3 hg3 HC2 HG2
    have hy1 : (y : Int) < 2 := by omega
    go_wp2
    rw [show (20 : Int) + (y : Int) = ((20 + y : Nat) : Int) from by omega]
    obtain ⟨n, hn⟩ : ∃ n : Nat, n = 20 + y := ⟨_, rfl⟩
    have hn21 : n ≤ 21 := by omega
    rw [← hn]
    clear hy hn hx hy1
    go_loopw [3] (fun v wr => ∃ (l : List ByteArray) (B : Option Addr) (d : Nat), l.length ≤ n ∧ v = .slice B l.length d ∧ Hid (Le40 l) ∧ Hid (wr.ownsRow w.heap.size 9 1 (.slice B l.length d) l.length (strs l)) ∧ Hid (CurLe wr b A c (M + 3 + 9 * l.length) xs) ∧ Hid (w.grownBy wr (some b))) (fun v _ => n - sLenH v)
    case atStart => exact ⟨[], none, 0, Nat.zero_le _, rfl, Lib.hid (fun s h => absurd h (by simp)), Lib.hid (own_nil _ _ _ _), HC3, HG3⟩
    case round =>
      clear HC3 HG3
      obtain ⟨l, B, d, hl, rfl, HS, HO, HC, HG⟩ := hrel
      by_cases hlt : l.length < n
      · go_wp2_with fail
        refine (pattern_any b c (M + 3 + 9 * l.length) A xs wr HC.out (by omega) hxs).mono ?_
        rintro e w5 ⟨⟨s, hs9, rfl⟩, hc5, hg5⟩
        have HO5 := Lib.hid (own_grown HO.out hg5 (fun k hk e => by have := own_lt HO.out k hk; have := Option.some.inj e; omega))
        have HG5 := Lib.hid (grownBy_trans HG.out hg5)
        have HC5 := Lib.hid hc5
        have hsz5 : w.heap.size ≤ w5.heap.size := HG5.out.size
        have hmx : l.length + 1 ≤ maxLen := by unfold maxLen; omega
        clear hc5 hg5 HO HG HC
        go_wp2_with (at_builtin; refine wpList_append_own _ rfl _ _ 23 rfl w.heap.size 9 i0 (.string .empty) 1 16 Tryd.underlying23 HI0.out HZ0.out HZ1.out HZ2.out rfl (by decide) _ _ _ rfl (HO5.out.alloc _) ⟨w5.heap.size, 0, none⟩ 1 1 [.string s] rfl rfl (cell_one_new _ _ _) (by simp [Value.oneCell']) hmx (by omega) (by simp; omega) ?_)
        intro v' w6 hown' hgrow _
        have hrw := own_lt HO5.out
        have hal : w5.grownBy (w5.alloc (.cells #[.string s] 9)) (some b) := grownBy_alloc (World.grownBy.refl _ _) _
        have HC6 := Lib.hid ((HC5.out.below ((Below.refl _ _).alloc (Nat.le_refl _) (.cells #[.string s] 9))).ownH hgrow (fun k hk => by have := hrw k hk; omega))
        have HG6 := Lib.hid (grownBy_ownH (grownBy_trans HG5.out hal) hgrow (fun k hk => by have := hrw k hk; omega))
        have ho6 : w6.ownsRow w.heap.size 9 1 v' (l ++ [s]).length (strs (l ++ [s])) := by rw [List.length_append, strs_snoc]; exact hown'
        obtain ⟨B', d', hv6⟩ := own_shape ho6
        subst hv6
        have HO6 := Lib.hid ho6
        have HS6 := Lib.hid (HS.out.snoc (s := s) (by omega))
        have HL6 : Hid ((l ++ [s]).length = l.length + 1) := Lib.hid (by simp)
        clear hown' hgrow HO5 hal ho6
        go_wp2
        go_roundw
        case rel => exact ⟨l ++ [s], B', d', by rw [HL6.out]; omega, rfl, HS6, HO6, Lib.hid (HC6.out.more (by rw [HL6.out]; omega)), HG6⟩
        case measure => simp [sLenH]; omega
      · have hln : l.length = n := by omega
        go_wp2
        go_ret
        exact ⟨⟨l, B, d, rfl, by omega, HS.out, HO.out⟩, HC.out.more (by omega), HG.out⟩
end Go.Proofs.YtcbhhbcfnaekpaaDoor

/-
  The draws of chapter 11, fourth part: l1Cur.exceptions: bounds alone.
-/
namespace Go.Proofs.YtcbhhbcfnaekpaaDoor
open Go.RowKit
set_option linter.unusedVariables false

def excB (k : Nat) : List UInt8 := [UInt8.ofNat (97 + k), 101, 98, 97]
theorem excB_run (k : Nat) (hk : k ≤ 25) (w : World) : (convert 22 9 (.slice (some ⟨w.heap.size, 0, none⟩) 4 4)).run Tryd.prog (w.alloc (.cells #[.int .u8 (97 + (k : Int)), .int .u8 101, .int .u8 98, .int .u8 97] 5)) = .ok (.string ⟨(excB k).toArray⟩) (w.alloc (.cells #[.int .u8 (97 + (k : Int)), .int .u8 101, .int .u8 98, .int .u8 97] 5)) :=
  run_convert_bytes_back (P := Tryd.prog) _ 22 9 5 ⟨w.heap.size, 0, none⟩ 4 (excB k) Tryd.underlying22 Tryd.underlying5 Tryd.underlying9 (fun i hi => by
    have e : (⟨w.heap.size, 0, none⟩ : Addr).add i = ⟨w.heap.size, i, none⟩ := by unfold Addr.add; by_cases hk0 : i = 0 <;> simp [hk0]
    rw [e, cell_of_heap (heap_new _ _)]
    have hu : ((UInt8.ofNat (97 + k)).toNat : Int) = 97 + (k : Int) := by
      rw [UInt8.toNat_ofNat']; omega
    have hi4 : i < 4 := hi
    rcases (by omega : i = 0 ∨ i = 1 ∨ i = 2 ∨ i = 3) with rfl | rfl | rfl | rfl
    · show some (Value.int .u8 (97 + (k : Int))) = some (.int .u8 ((UInt8.ofNat (97 + k)).toNat : Int))
      rw [hu]
    · rfl
    · rfl
    · rfl)
set_option maxRecDepth 100000 in
set_option maxHeartbeats 4000000 in
theorem exceptions_any (wd : ByteArray) (b c M : Nat) (A : Option Addr) (xs : List UInt8) (w : World) (hc : CurLe w b A c M xs) (hat : M ≤ 999000) (hxs : xs.length ≤ maxLen) (h20 : wd.size ≤ 20) :
    Calls Tryd.prog 71 #[.pointer (some ⟨b, 0, none⟩), .string wd] w fun e w' => LsTo b c (M + 500) A xs w w' e := by
  have hbl := hc.lt
  have HC := Lib.hid hc; clear hc
  obtain ⟨i0, hi, hz0, hz1, hz2⟩ := info_parts info9
  have HI0 := Lib.hid hi; have HZ0 := Lib.hid hz0; have HZ1 := Lib.hid hz1; have HZ2 := Lib.hid hz2
  clear hi hz0 hz1 hz2
  go_enter Tryd.func71, Tryd.ntmps71
  go_wp2_with fail
  refine (one_any 3 b c M A xs w HC.out (by omega) hxs (by omega) (by omega)).mono ?_
  rintro e w2 ⟨⟨r1, rfl⟩, hc1, hg1⟩
  have HC1 := Lib.hid hc1; have HG2 := Lib.hid hg1
  have HC2 : Hid (CurLe w2 b A c (M + 24) xs) := Lib.hid (hc1.more (by omega))
  clear hc1 hg1 HC
  have HS2 : Hid (Le40 []) := Lib.hid (fun s h => absurd h (by simp))
  have HO2 : Hid (w2.ownsRow w.heap.size 9 1 (.slice none 0 0) 0 (strs [])) := Lib.hid (own_nil w2 w.heap.size 1 9)
  cases r1
  · clear HC1
    go_wp2_with fail
    refine (pick_any 3 b c (M + 24) A xs w2 HC2.out (by omega) hxs (by omega) (by omega)).mono ?_
    rintro e w3 ⟨⟨x, hx, rfl⟩, hc3, hg3⟩
    have HC3 := Lib.hid hc3
    have HO3 := Lib.hid (own_grown HO2.out hg3 (fun k hk e => by have := own_lt HO2.out k hk; have := Option.some.inj e; omega))
    have HG3 := Lib.hid (grownBy_trans HG2.out hg3)
    clear hc3 hg3 HC2 HG2 HO2
    go_wp2_with fail
    refine (one_any 16 b c (M + 24 + 1) A xs w3 HC3.out (by omega) hxs (by omega) (by omega)).mono ?_
    rintro e w4 ⟨⟨r, rfl⟩, hc4, hg4⟩
    have HC4 := Lib.hid hc4
    have HO4 := Lib.hid (own_grown HO3.out hg4 (fun k hk e => by have := own_lt HO3.out k hk; have := Option.some.inj e; omega))
    have HG4 := Lib.hid (grownBy_trans HG3.out hg4)
    clear hc4 hg4 HC3 HG3 HO3
    cases r
    · have HCL := HC4; have HGL := HG4; have HOL := HO4; have HSL := HS2
      clear HC4 HG4 HO4
      obtain ⟨n, hn⟩ : ∃ n : Nat, n = x := ⟨_, rfl⟩
      have hn21 : n ≤ 21 := by omega
      have hn22 : 0 + n ≤ 22 := by omega
      rw [← hn]
      clear hx hn
      go_wp2
      go_loopw [5, 7] (fun v i wr => ∃ (l : List ByteArray) (B : Option Addr) (d k : Nat), Hid (l.length = 0 + k) ∧ k ≤ n ∧ i = .int .i64 (k : Int) ∧ v = .slice B l.length d ∧ Hid (Le40 l) ∧ Hid (wr.ownsRow w.heap.size 9 1 (.slice B l.length d) l.length (strs l)) ∧ Hid (CurLe wr b A c (M + 30 + 22 * k) xs) ∧ Hid (w.grownBy wr (some b))) (fun _ i _ => n - (intOf i).toNat)
      case atStart => exact ⟨[], none, 0, 0, Lib.hid rfl, Nat.zero_le _, rfl, rfl, HSL, HOL, Lib.hid (HCL.out.more (by omega)), HGL⟩
      case round =>
        clear HSL HOL HCL HGL
        obtain ⟨l, B, d, k, HLK, hk, rfl, rfl, HS, HO, HC, HG⟩ := hrel
        have hll : l.length ≤ 22 := by have := HLK.out; omega
        by_cases hlt : k < n
        · have hlt' : (k : Int) < (n : Int) := by omega
          have hm1 : (k : Int) % 26 = (k : Int) := by omega
          have hq1 : (k : Int) / 26 = 0 := by omega
          have hw8 : IntKind.u8.wrap (97 + (k : Int)) = 97 + (k : Int) := by show (97 + (k : Int)) % 256 = _; omega
          have hcv := excB_run k (by omega) wr
          have hkb : (k : Int) ≤ 25 := by omega
          have hba := Below.alloc (Below.refl wr.heap.size wr) (Nat.le_refl _) (.cells #[.int .u8 (97 + (k : Int)), .int .u8 101, .int .u8 98, .int .u8 97] 5)
          have HCa : Hid (CurLe (wr.alloc (.cells #[.int .u8 (97 + (k : Int)), .int .u8 101, .int .u8 98, .int .u8 97] 5)) b A c (M + 30 + 22 * k) xs) := Lib.hid (HC.out.below hba)
          have HGa := Lib.hid (grown_below (World.grownBy.refl wr (some b)) hba)
          clear hba
          go_wp2_with fail
          refine (exception_any ⟨(excB k).toArray⟩ b c (M + 30 + 22 * k) A xs _ HCa.out (by omega) hxs (by show 4 ≤ 20; omega)).mono ?_
          rintro e w5 ⟨⟨s, hs9, rfl⟩, hc5, hg5'⟩
          have hg5 := grownBy_trans HGa.out hg5'
          clear hg5' HCa HGa hcv
          have HO5 := Lib.hid (own_grown HO.out hg5 (fun k hk e => by have := own_lt HO.out k hk; have := Option.some.inj e; omega))
          have HG5 := Lib.hid (grownBy_trans HG.out hg5)
          have HC5 := Lib.hid hc5
          have hsz5 : w.heap.size ≤ w5.heap.size := HG5.out.size
          have hmx : l.length + 1 ≤ maxLen := by unfold maxLen; omega
          clear hc5 hg5 HO HG HC
          go_wp2_with (at_builtin; refine wpList_append_own _ rfl _ _ 23 rfl w.heap.size 9 i0 (.string .empty) 1 16 Tryd.underlying23 HI0.out HZ0.out HZ1.out HZ2.out rfl (by decide) _ _ _ rfl (HO5.out.alloc _) ⟨w5.heap.size, 0, none⟩ 1 1 [.string s] rfl rfl (cell_one_new _ _ _) (by simp [Value.oneCell']) hmx (by omega) (by simp; omega) ?_)
          intro v' w6 hown' hgrow _
          have hrw := own_lt HO5.out
          have hal : w5.grownBy (w5.alloc (.cells #[.string s] 9)) (some b) := grownBy_alloc (World.grownBy.refl _ _) _
          have HC6 := Lib.hid ((HC5.out.below ((Below.refl _ _).alloc (Nat.le_refl _) (.cells #[.string s] 9))).ownH hgrow (fun k hk => by have := hrw k hk; omega))
          have HG6 := Lib.hid (grownBy_ownH (grownBy_trans HG5.out hal) hgrow (fun k hk => by have := hrw k hk; omega))
          have ho6 : w6.ownsRow w.heap.size 9 1 v' (l ++ [s]).length (strs (l ++ [s])) := by rw [List.length_append, strs_snoc]; exact hown'
          obtain ⟨B', d', hv6⟩ := own_shape ho6
          subst hv6
          have HO6 := Lib.hid ho6
          have HS6 := Lib.hid (HS.out.snoc (s := s) (by omega))
          have HL6 : Hid ((l ++ [s]).length = l.length + 1) := Lib.hid (by simp)
          clear hown' hgrow HO5 hal ho6
          go_wp2
          go_roundw
          case rel => exact ⟨l ++ [s], B', d', k + 1, Lib.hid (by rw [HL6.out]; have := HLK.out; omega), by omega, by go_num, rfl, HS6, HO6, Lib.hid (HC6.out.more (by omega)), HG6⟩
          case measure => simp [intOf]; omega
        · have hkn : k = n := by omega
          go_wp2
          go_ret
          exact ⟨⟨l, B, d, rfl, by omega, HS.out, HO.out⟩, HC.out.more (by omega), HG.out⟩
    · go_wp2_with fail
      refine (pick_any 2 b c (M + 24 + 1 + 1) A xs w4 HC4.out (by omega) hxs (by omega) (by omega)).mono ?_
      rintro e w7 ⟨⟨y, hy, rfl⟩, hc7, hg7⟩
      have HCL := Lib.hid hc7
      have HOL := Lib.hid (own_grown HO4.out hg7 (fun k hk e => by have := own_lt HO4.out k hk; have := Option.some.inj e; omega))
      have HGL := Lib.hid (grownBy_trans HG4.out hg7)
      have HSL := HS2
      clear hc7 hg7 HC4 HG4 HO4
      have hy1 : (y : Int) < 2 := by omega
      go_wp2
      rw [show (20 : Int) + (y : Int) = ((20 - 0 + y : Nat) : Int) from by omega]
      obtain ⟨n, hn⟩ : ∃ n : Nat, n = 20 - 0 + y := ⟨_, rfl⟩
      have hn21 : n ≤ 21 := by omega
      have hn22 : 0 + n ≤ 22 := by omega
      rw [← hn]
      clear hy hn hx hy1
      go_loopw [5, 7] (fun v i wr => ∃ (l : List ByteArray) (B : Option Addr) (d k : Nat), Hid (l.length = 0 + k) ∧ k ≤ n ∧ i = .int .i64 (k : Int) ∧ v = .slice B l.length d ∧ Hid (Le40 l) ∧ Hid (wr.ownsRow w.heap.size 9 1 (.slice B l.length d) l.length (strs l)) ∧ Hid (CurLe wr b A c (M + 30 + 22 * k) xs) ∧ Hid (w.grownBy wr (some b))) (fun _ i _ => n - (intOf i).toNat)
      case atStart => exact ⟨[], none, 0, 0, Lib.hid rfl, Nat.zero_le _, rfl, rfl, HSL, HOL, Lib.hid (HCL.out.more (by omega)), HGL⟩
      case round =>
        clear HSL HOL HCL HGL
        obtain ⟨l, B, d, k, HLK, hk, rfl, rfl, HS, HO, HC, HG⟩ := hrel
        have hll : l.length ≤ 22 := by have := HLK.out; omega
        by_cases hlt : k < n
        · have hlt' : (k : Int) < (n : Int) := by omega
          have hm1 : (k : Int) % 26 = (k : Int) := by omega
          have hq1 : (k : Int) / 26 = 0 := by omega
          have hw8 : IntKind.u8.wrap (97 + (k : Int)) = 97 + (k : Int) := by show (97 + (k : Int)) % 256 = _; omega
          have hcv := excB_run k (by omega) wr
          have hkb : (k : Int) ≤ 25 := by omega
          have hba := Below.alloc (Below.refl wr.heap.size wr) (Nat.le_refl _) (.cells #[.int .u8 (97 + (k : Int)), .int .u8 101, .int .u8 98, .int .u8 97] 5)
          have HCa : Hid (CurLe (wr.alloc (.cells #[.int .u8 (97 + (k : Int)), .int .u8 101, .int .u8 98, .int .u8 97] 5)) b A c (M + 30 + 22 * k) xs) := Lib.hid (HC.out.below hba)
          have HGa := Lib.hid (grown_below (World.grownBy.refl wr (some b)) hba)
          clear hba
          go_wp2_with fail
          refine (exception_any ⟨(excB k).toArray⟩ b c (M + 30 + 22 * k) A xs _ HCa.out (by omega) hxs (by show 4 ≤ 20; omega)).mono ?_
          rintro e w5 ⟨⟨s, hs9, rfl⟩, hc5, hg5'⟩
          have hg5 := grownBy_trans HGa.out hg5'
          clear hg5' HCa HGa hcv
          have HO5 := Lib.hid (own_grown HO.out hg5 (fun k hk e => by have := own_lt HO.out k hk; have := Option.some.inj e; omega))
          have HG5 := Lib.hid (grownBy_trans HG.out hg5)
          have HC5 := Lib.hid hc5
          have hsz5 : w.heap.size ≤ w5.heap.size := HG5.out.size
          have hmx : l.length + 1 ≤ maxLen := by unfold maxLen; omega
          clear hc5 hg5 HO HG HC
          go_wp2_with (at_builtin; refine wpList_append_own _ rfl _ _ 23 rfl w.heap.size 9 i0 (.string .empty) 1 16 Tryd.underlying23 HI0.out HZ0.out HZ1.out HZ2.out rfl (by decide) _ _ _ rfl (HO5.out.alloc _) ⟨w5.heap.size, 0, none⟩ 1 1 [.string s] rfl rfl (cell_one_new _ _ _) (by simp [Value.oneCell']) hmx (by omega) (by simp; omega) ?_)
          intro v' w6 hown' hgrow _
          have hrw := own_lt HO5.out
          have hal : w5.grownBy (w5.alloc (.cells #[.string s] 9)) (some b) := grownBy_alloc (World.grownBy.refl _ _) _
          have HC6 := Lib.hid ((HC5.out.below ((Below.refl _ _).alloc (Nat.le_refl _) (.cells #[.string s] 9))).ownH hgrow (fun k hk => by have := hrw k hk; omega))
          have HG6 := Lib.hid (grownBy_ownH (grownBy_trans HG5.out hal) hgrow (fun k hk => by have := hrw k hk; omega))
          have ho6 : w6.ownsRow w.heap.size 9 1 v' (l ++ [s]).length (strs (l ++ [s])) := by rw [List.length_append, strs_snoc]; exact hown'
          obtain ⟨B', d', hv6⟩ := own_shape ho6
          subst hv6
          have HO6 := Lib.hid ho6
          have HS6 := Lib.hid (HS.out.snoc (s := s) (by omega))
          have HL6 : Hid ((l ++ [s]).length = l.length + 1) := Lib.hid (by simp)
          clear hown' hgrow HO5 hal ho6
          go_wp2
          go_roundw
          case rel => exact ⟨l ++ [s], B', d', k + 1, Lib.hid (by rw [HL6.out]; have := HLK.out; omega), by omega, by go_num, rfl, HS6, HO6, Lib.hid (HC6.out.more (by omega)), HG6⟩
          case measure => simp [intOf]; omega
        · have hkn : k = n := by omega
          go_wp2
          go_ret
          exact ⟨⟨l, B, d, rfl, by omega, HS.out, HO.out⟩, HC.out.more (by omega), HG.out⟩
  · by_cases hl1 : 1 < wd.size
    · have hl1' : (1 : Int) < (wd.size : Int) := by omega
      go_wp2_with fail
      refine (exception_any wd b c (M + 1) A xs w2 HC1.out (by omega) hxs h20).mono ?_
      rintro e w5 ⟨⟨s, hs9, rfl⟩, hc5, hg5⟩
      have HO5 := Lib.hid (own_grown HO2.out hg5 (fun k hk e => by simp [Value.ownBlock] at hk))
      have HG5 := Lib.hid (grownBy_trans HG2.out hg5)
      have HC5 := Lib.hid hc5
      have hsz5 : w.heap.size ≤ w5.heap.size := HG5.out.size
      have hmx : 0 + 1 ≤ maxLen := by decide
      clear hc5 hg5 HO2 HG2 HC2 HC1
      go_wp2_with (at_builtin; refine wpList_append_own _ rfl _ _ 23 rfl w.heap.size 9 i0 (.string .empty) 1 16 Tryd.underlying23 HI0.out HZ0.out HZ1.out HZ2.out rfl (by decide) _ _ _ rfl (HO5.out.alloc _) ⟨w5.heap.size, 0, none⟩ 1 1 [.string s] rfl rfl (cell_one_new _ _ _) (by simp [Value.oneCell']) hmx (by omega) (by simp; omega) ?_)
      intro v' w6 hown' hgrow _
      have hrw := own_lt HO5.out
      have hal : w5.grownBy (w5.alloc (.cells #[.string s] 9)) (some b) := grownBy_alloc (World.grownBy.refl _ _) _
      have HC6 := Lib.hid ((HC5.out.below ((Below.refl _ _).alloc (Nat.le_refl _) (.cells #[.string s] 9))).ownH hgrow (fun k hk => by have := hrw k hk; omega))
      have HG6 := Lib.hid (grownBy_ownH (grownBy_trans HG5.out hal) hgrow (fun k hk => by have := hrw k hk; omega))
      have ho6 : w6.ownsRow w.heap.size 9 1 v' 1 (strs [s]) := hown'
      obtain ⟨B', d', hv6⟩ := own_shape ho6
      subst hv6
      have HO2 := Lib.hid ho6
      have HC2 : Hid (CurLe w6 b A c (M + 24) xs) := Lib.hid (HC6.out.more (by omega))
      have HG2 := HG6
      have HS3 : Hid (Le40 [s]) := Lib.hid (HS2.out.snoc (s := s) (by omega))
      clear hown' hgrow HO5 hal ho6 HS2 hrw HG5 HC5 HC6 HG6
      have HS2 := HS3
      clear HS3
      rename World => w2
      go_wp2_with fail
      refine (pick_any 3 b c (M + 24) A xs w2 HC2.out (by omega) hxs (by omega) (by omega)).mono ?_
      rintro e w3 ⟨⟨x, hx, rfl⟩, hc3, hg3⟩
      have HC3 := Lib.hid hc3
      have HO3 := Lib.hid (own_grown HO2.out hg3 (fun k hk e => by have := own_lt HO2.out k hk; have := Option.some.inj e; omega))
      have HG3 := Lib.hid (grownBy_trans HG2.out hg3)
      clear hc3 hg3 HC2 HG2 HO2
      go_wp2_with fail
      refine (one_any 16 b c (M + 24 + 1) A xs w3 HC3.out (by omega) hxs (by omega) (by omega)).mono ?_
      rintro e w4 ⟨⟨r, rfl⟩, hc4, hg4⟩
      have HC4 := Lib.hid hc4
      have HO4 := Lib.hid (own_grown HO3.out hg4 (fun k hk e => by have := own_lt HO3.out k hk; have := Option.some.inj e; omega))
      have HG4 := Lib.hid (grownBy_trans HG3.out hg4)
      clear hc4 hg4 HC3 HG3 HO3
      cases r
      · have HCL := HC4; have HGL := HG4; have HOL := HO4; have HSL := HS2
        clear HC4 HG4 HO4
        obtain ⟨n, hn⟩ : ∃ n : Nat, n = x := ⟨_, rfl⟩
        have hn21 : n ≤ 21 := by omega
        have hn22 : 1 + n ≤ 22 := by omega
        rw [← hn]
        clear hx hn
        go_wp2
        go_loopw [5, 7] (fun v i wr => ∃ (l : List ByteArray) (B : Option Addr) (d k : Nat), Hid (l.length = 1 + k) ∧ k ≤ n ∧ i = .int .i64 (k : Int) ∧ v = .slice B l.length d ∧ Hid (Le40 l) ∧ Hid (wr.ownsRow w.heap.size 9 1 (.slice B l.length d) l.length (strs l)) ∧ Hid (CurLe wr b A c (M + 30 + 22 * k) xs) ∧ Hid (w.grownBy wr (some b))) (fun _ i _ => n - (intOf i).toNat)
        case atStart => exact ⟨[s], B', d', 0, Lib.hid rfl, Nat.zero_le _, rfl, rfl, HSL, HOL, Lib.hid (HCL.out.more (by omega)), HGL⟩
        case round =>
          clear HSL HOL HCL HGL
          obtain ⟨l, B, d, k, HLK, hk, rfl, rfl, HS, HO, HC, HG⟩ := hrel
          have hll : l.length ≤ 22 := by have := HLK.out; omega
          by_cases hlt : k < n
          · have hlt' : (k : Int) < (n : Int) := by omega
            have hm1 : (k : Int) % 26 = (k : Int) := by omega
            have hq1 : (k : Int) / 26 = 0 := by omega
            have hw8 : IntKind.u8.wrap (97 + (k : Int)) = 97 + (k : Int) := by show (97 + (k : Int)) % 256 = _; omega
            have hcv := excB_run k (by omega) wr
            have hkb : (k : Int) ≤ 25 := by omega
            have hba := Below.alloc (Below.refl wr.heap.size wr) (Nat.le_refl _) (.cells #[.int .u8 (97 + (k : Int)), .int .u8 101, .int .u8 98, .int .u8 97] 5)
            have HCa : Hid (CurLe (wr.alloc (.cells #[.int .u8 (97 + (k : Int)), .int .u8 101, .int .u8 98, .int .u8 97] 5)) b A c (M + 30 + 22 * k) xs) := Lib.hid (HC.out.below hba)
            have HGa := Lib.hid (grown_below (World.grownBy.refl wr (some b)) hba)
            clear hba
            go_wp2_with fail
            refine (exception_any ⟨(excB k).toArray⟩ b c (M + 30 + 22 * k) A xs _ HCa.out (by omega) hxs (by show 4 ≤ 20; omega)).mono ?_
            rintro e w5 ⟨⟨s, hs9, rfl⟩, hc5, hg5'⟩
            have hg5 := grownBy_trans HGa.out hg5'
            clear hg5' HCa HGa hcv
            have HO5 := Lib.hid (own_grown HO.out hg5 (fun k hk e => by have := own_lt HO.out k hk; have := Option.some.inj e; omega))
            have HG5 := Lib.hid (grownBy_trans HG.out hg5)
            have HC5 := Lib.hid hc5
            have hsz5 : w.heap.size ≤ w5.heap.size := HG5.out.size
            have hmx : l.length + 1 ≤ maxLen := by unfold maxLen; omega
            clear hc5 hg5 HO HG HC
            go_wp2_with (at_builtin; refine wpList_append_own _ rfl _ _ 23 rfl w.heap.size 9 i0 (.string .empty) 1 16 Tryd.underlying23 HI0.out HZ0.out HZ1.out HZ2.out rfl (by decide) _ _ _ rfl (HO5.out.alloc _) ⟨w5.heap.size, 0, none⟩ 1 1 [.string s] rfl rfl (cell_one_new _ _ _) (by simp [Value.oneCell']) hmx (by omega) (by simp; omega) ?_)
            intro v' w6 hown' hgrow _
            have hrw := own_lt HO5.out
            have hal : w5.grownBy (w5.alloc (.cells #[.string s] 9)) (some b) := grownBy_alloc (World.grownBy.refl _ _) _
            have HC6 := Lib.hid ((HC5.out.below ((Below.refl _ _).alloc (Nat.le_refl _) (.cells #[.string s] 9))).ownH hgrow (fun k hk => by have := hrw k hk; omega))
            have HG6 := Lib.hid (grownBy_ownH (grownBy_trans HG5.out hal) hgrow (fun k hk => by have := hrw k hk; omega))
            have ho6 : w6.ownsRow w.heap.size 9 1 v' (l ++ [s]).length (strs (l ++ [s])) := by rw [List.length_append, strs_snoc]; exact hown'
            obtain ⟨B', d', hv6⟩ := own_shape ho6
            subst hv6
            have HO6 := Lib.hid ho6
            have HS6 := Lib.hid (HS.out.snoc (s := s) (by omega))
            have HL6 : Hid ((l ++ [s]).length = l.length + 1) := Lib.hid (by simp)
            clear hown' hgrow HO5 hal ho6
            go_wp2
            go_roundw
            case rel => exact ⟨l ++ [s], B', d', k + 1, Lib.hid (by rw [HL6.out]; have := HLK.out; omega), by omega, by go_num, rfl, HS6, HO6, Lib.hid (HC6.out.more (by omega)), HG6⟩
            case measure => simp [intOf]; omega
          · have hkn : k = n := by omega
            go_wp2
            go_ret
            exact ⟨⟨l, B, d, rfl, by omega, HS.out, HO.out⟩, HC.out.more (by omega), HG.out⟩
      · go_wp2_with fail
        refine (pick_any 2 b c (M + 24 + 1 + 1) A xs w4 HC4.out (by omega) hxs (by omega) (by omega)).mono ?_
        rintro e w7 ⟨⟨y, hy, rfl⟩, hc7, hg7⟩
        have HCL := Lib.hid hc7
        have HOL := Lib.hid (own_grown HO4.out hg7 (fun k hk e => by have := own_lt HO4.out k hk; have := Option.some.inj e; omega))
        have HGL := Lib.hid (grownBy_trans HG4.out hg7)
        have HSL := HS2
        clear hc7 hg7 HC4 HG4 HO4
        have hy1 : (y : Int) < 2 := by omega
        go_wp2
        rw [show (19 : Int) + (y : Int) = ((20 - 1 + y : Nat) : Int) from by omega]
        obtain ⟨n, hn⟩ : ∃ n : Nat, n = 20 - 1 + y := ⟨_, rfl⟩
        have hn21 : n ≤ 21 := by omega
        have hn22 : 1 + n ≤ 22 := by omega
        rw [← hn]
        clear hy hn hx hy1
        go_loopw [5, 7] (fun v i wr => ∃ (l : List ByteArray) (B : Option Addr) (d k : Nat), Hid (l.length = 1 + k) ∧ k ≤ n ∧ i = .int .i64 (k : Int) ∧ v = .slice B l.length d ∧ Hid (Le40 l) ∧ Hid (wr.ownsRow w.heap.size 9 1 (.slice B l.length d) l.length (strs l)) ∧ Hid (CurLe wr b A c (M + 30 + 22 * k) xs) ∧ Hid (w.grownBy wr (some b))) (fun _ i _ => n - (intOf i).toNat)
        case atStart => exact ⟨[s], B', d', 0, Lib.hid rfl, Nat.zero_le _, rfl, rfl, HSL, HOL, Lib.hid (HCL.out.more (by omega)), HGL⟩
        case round =>
          clear HSL HOL HCL HGL
          obtain ⟨l, B, d, k, HLK, hk, rfl, rfl, HS, HO, HC, HG⟩ := hrel
          have hll : l.length ≤ 22 := by have := HLK.out; omega
          by_cases hlt : k < n
          · have hlt' : (k : Int) < (n : Int) := by omega
            have hm1 : (k : Int) % 26 = (k : Int) := by omega
            have hq1 : (k : Int) / 26 = 0 := by omega
            have hw8 : IntKind.u8.wrap (97 + (k : Int)) = 97 + (k : Int) := by show (97 + (k : Int)) % 256 = _; omega
            have hcv := excB_run k (by omega) wr
            have hkb : (k : Int) ≤ 25 := by omega
            have hba := Below.alloc (Below.refl wr.heap.size wr) (Nat.le_refl _) (.cells #[.int .u8 (97 + (k : Int)), .int .u8 101, .int .u8 98, .int .u8 97] 5)
            have HCa : Hid (CurLe (wr.alloc (.cells #[.int .u8 (97 + (k : Int)), .int .u8 101, .int .u8 98, .int .u8 97] 5)) b A c (M + 30 + 22 * k) xs) := Lib.hid (HC.out.below hba)
            have HGa := Lib.hid (grown_below (World.grownBy.refl wr (some b)) hba)
            clear hba
            go_wp2_with fail
            refine (exception_any ⟨(excB k).toArray⟩ b c (M + 30 + 22 * k) A xs _ HCa.out (by omega) hxs (by show 4 ≤ 20; omega)).mono ?_
            rintro e w5 ⟨⟨s, hs9, rfl⟩, hc5, hg5'⟩
            have hg5 := grownBy_trans HGa.out hg5'
            clear hg5' HCa HGa hcv
            have HO5 := Lib.hid (own_grown HO.out hg5 (fun k hk e => by have := own_lt HO.out k hk; have := Option.some.inj e; omega))
            have HG5 := Lib.hid (grownBy_trans HG.out hg5)
            have HC5 := Lib.hid hc5
            have hsz5 : w.heap.size ≤ w5.heap.size := HG5.out.size
            have hmx : l.length + 1 ≤ maxLen := by unfold maxLen; omega
            clear hc5 hg5 HO HG HC
            go_wp2_with (at_builtin; refine wpList_append_own _ rfl _ _ 23 rfl w.heap.size 9 i0 (.string .empty) 1 16 Tryd.underlying23 HI0.out HZ0.out HZ1.out HZ2.out rfl (by decide) _ _ _ rfl (HO5.out.alloc _) ⟨w5.heap.size, 0, none⟩ 1 1 [.string s] rfl rfl (cell_one_new _ _ _) (by simp [Value.oneCell']) hmx (by omega) (by simp; omega) ?_)
            intro v' w6 hown' hgrow _
            have hrw := own_lt HO5.out
            have hal : w5.grownBy (w5.alloc (.cells #[.string s] 9)) (some b) := grownBy_alloc (World.grownBy.refl _ _) _
            have HC6 := Lib.hid ((HC5.out.below ((Below.refl _ _).alloc (Nat.le_refl _) (.cells #[.string s] 9))).ownH hgrow (fun k hk => by have := hrw k hk; omega))
            have HG6 := Lib.hid (grownBy_ownH (grownBy_trans HG5.out hal) hgrow (fun k hk => by have := hrw k hk; omega))
            have ho6 : w6.ownsRow w.heap.size 9 1 v' (l ++ [s]).length (strs (l ++ [s])) := by rw [List.length_append, strs_snoc]; exact hown'
            obtain ⟨B', d', hv6⟩ := own_shape ho6
            subst hv6
            have HO6 := Lib.hid ho6
            have HS6 := Lib.hid (HS.out.snoc (s := s) (by omega))
            have HL6 : Hid ((l ++ [s]).length = l.length + 1) := Lib.hid (by simp)
            clear hown' hgrow HO5 hal ho6
            go_wp2
            go_roundw
            case rel => exact ⟨l ++ [s], B', d', k + 1, Lib.hid (by rw [HL6.out]; have := HLK.out; omega), by omega, by go_num, rfl, HS6, HO6, Lib.hid (HC6.out.more (by omega)), HG6⟩
            case measure => simp [intOf]; omega
          · have hkn : k = n := by omega
            go_wp2
            go_ret
            exact ⟨⟨l, B, d, rfl, by omega, HS.out, HO.out⟩, HC.out.more (by omega), HG.out⟩
    · have hl1' : ¬ (1 : Int) < (wd.size : Int) := by omega
      clear HC1
      go_wp2_with fail
      refine (pick_any 3 b c (M + 24) A xs w2 HC2.out (by omega) hxs (by omega) (by omega)).mono ?_
      rintro e w3 ⟨⟨x, hx, rfl⟩, hc3, hg3⟩
      have HC3 := Lib.hid hc3
      have HO3 := Lib.hid (own_grown HO2.out hg3 (fun k hk e => by have := own_lt HO2.out k hk; have := Option.some.inj e; omega))
      have HG3 := Lib.hid (grownBy_trans HG2.out hg3)
      clear hc3 hg3 HC2 HG2 HO2
      go_wp2_with fail
      refine (one_any 16 b c (M + 24 + 1) A xs w3 HC3.out (by omega) hxs (by omega) (by omega)).mono ?_
      rintro e w4 ⟨⟨r, rfl⟩, hc4, hg4⟩
      have HC4 := Lib.hid hc4
      have HO4 := Lib.hid (own_grown HO3.out hg4 (fun k hk e => by have := own_lt HO3.out k hk; have := Option.some.inj e; omega))
      have HG4 := Lib.hid (grownBy_trans HG3.out hg4)
      clear hc4 hg4 HC3 HG3 HO3
      cases r
      · have HCL := HC4; have HGL := HG4; have HOL := HO4; have HSL := HS2
        clear HC4 HG4 HO4
        obtain ⟨n, hn⟩ : ∃ n : Nat, n = x := ⟨_, rfl⟩
        have hn21 : n ≤ 21 := by omega
        have hn22 : 0 + n ≤ 22 := by omega
        rw [← hn]
        clear hx hn
        go_wp2
        go_loopw [5, 7] (fun v i wr => ∃ (l : List ByteArray) (B : Option Addr) (d k : Nat), Hid (l.length = 0 + k) ∧ k ≤ n ∧ i = .int .i64 (k : Int) ∧ v = .slice B l.length d ∧ Hid (Le40 l) ∧ Hid (wr.ownsRow w.heap.size 9 1 (.slice B l.length d) l.length (strs l)) ∧ Hid (CurLe wr b A c (M + 30 + 22 * k) xs) ∧ Hid (w.grownBy wr (some b))) (fun _ i _ => n - (intOf i).toNat)
        case atStart => exact ⟨[], none, 0, 0, Lib.hid rfl, Nat.zero_le _, rfl, rfl, HSL, HOL, Lib.hid (HCL.out.more (by omega)), HGL⟩
        case round =>
          clear HSL HOL HCL HGL
          obtain ⟨l, B, d, k, HLK, hk, rfl, rfl, HS, HO, HC, HG⟩ := hrel
          have hll : l.length ≤ 22 := by have := HLK.out; omega
          by_cases hlt : k < n
          · have hlt' : (k : Int) < (n : Int) := by omega
            have hm1 : (k : Int) % 26 = (k : Int) := by omega
            have hq1 : (k : Int) / 26 = 0 := by omega
            have hw8 : IntKind.u8.wrap (97 + (k : Int)) = 97 + (k : Int) := by show (97 + (k : Int)) % 256 = _; omega
            have hcv := excB_run k (by omega) wr
            have hkb : (k : Int) ≤ 25 := by omega
            have hba := Below.alloc (Below.refl wr.heap.size wr) (Nat.le_refl _) (.cells #[.int .u8 (97 + (k : Int)), .int .u8 101, .int .u8 98, .int .u8 97] 5)
            have HCa : Hid (CurLe (wr.alloc (.cells #[.int .u8 (97 + (k : Int)), .int .u8 101, .int .u8 98, .int .u8 97] 5)) b A c (M + 30 + 22 * k) xs) := Lib.hid (HC.out.below hba)
            have HGa := Lib.hid (grown_below (World.grownBy.refl wr (some b)) hba)
            clear hba
            go_wp2_with fail
            refine (exception_any ⟨(excB k).toArray⟩ b c (M + 30 + 22 * k) A xs _ HCa.out (by omega) hxs (by show 4 ≤ 20; omega)).mono ?_
            rintro e w5 ⟨⟨s, hs9, rfl⟩, hc5, hg5'⟩
            have hg5 := grownBy_trans HGa.out hg5'
            clear hg5' HCa HGa hcv
            have HO5 := Lib.hid (own_grown HO.out hg5 (fun k hk e => by have := own_lt HO.out k hk; have := Option.some.inj e; omega))
            have HG5 := Lib.hid (grownBy_trans HG.out hg5)
            have HC5 := Lib.hid hc5
            have hsz5 : w.heap.size ≤ w5.heap.size := HG5.out.size
            have hmx : l.length + 1 ≤ maxLen := by unfold maxLen; omega
            clear hc5 hg5 HO HG HC
            go_wp2_with (at_builtin; refine wpList_append_own _ rfl _ _ 23 rfl w.heap.size 9 i0 (.string .empty) 1 16 Tryd.underlying23 HI0.out HZ0.out HZ1.out HZ2.out rfl (by decide) _ _ _ rfl (HO5.out.alloc _) ⟨w5.heap.size, 0, none⟩ 1 1 [.string s] rfl rfl (cell_one_new _ _ _) (by simp [Value.oneCell']) hmx (by omega) (by simp; omega) ?_)
            intro v' w6 hown' hgrow _
            have hrw := own_lt HO5.out
            have hal : w5.grownBy (w5.alloc (.cells #[.string s] 9)) (some b) := grownBy_alloc (World.grownBy.refl _ _) _
            have HC6 := Lib.hid ((HC5.out.below ((Below.refl _ _).alloc (Nat.le_refl _) (.cells #[.string s] 9))).ownH hgrow (fun k hk => by have := hrw k hk; omega))
            have HG6 := Lib.hid (grownBy_ownH (grownBy_trans HG5.out hal) hgrow (fun k hk => by have := hrw k hk; omega))
            have ho6 : w6.ownsRow w.heap.size 9 1 v' (l ++ [s]).length (strs (l ++ [s])) := by rw [List.length_append, strs_snoc]; exact hown'
            obtain ⟨B', d', hv6⟩ := own_shape ho6
            subst hv6
            have HO6 := Lib.hid ho6
            have HS6 := Lib.hid (HS.out.snoc (s := s) (by omega))
            have HL6 : Hid ((l ++ [s]).length = l.length + 1) := Lib.hid (by simp)
            clear hown' hgrow HO5 hal ho6
            go_wp2
            go_roundw
            case rel => exact ⟨l ++ [s], B', d', k + 1, Lib.hid (by rw [HL6.out]; have := HLK.out; omega), by omega, by go_num, rfl, HS6, HO6, Lib.hid (HC6.out.more (by omega)), HG6⟩
            case measure => simp [intOf]; omega
          · have hkn : k = n := by omega
            go_wp2
            go_ret
            exact ⟨⟨l, B, d, rfl, by omega, HS.out, HO.out⟩, HC.out.more (by omega), HG.out⟩
      · go_wp2_with fail
        refine (pick_any 2 b c (M + 24 + 1 + 1) A xs w4 HC4.out (by omega) hxs (by omega) (by omega)).mono ?_
        rintro e w7 ⟨⟨y, hy, rfl⟩, hc7, hg7⟩
        have HCL := Lib.hid hc7
        have HOL := Lib.hid (own_grown HO4.out hg7 (fun k hk e => by have := own_lt HO4.out k hk; have := Option.some.inj e; omega))
        have HGL := Lib.hid (grownBy_trans HG4.out hg7)
        have HSL := HS2
        clear hc7 hg7 HC4 HG4 HO4
        have hy1 : (y : Int) < 2 := by omega
        go_wp2
        rw [show (20 : Int) + (y : Int) = ((20 - 0 + y : Nat) : Int) from by omega]
        obtain ⟨n, hn⟩ : ∃ n : Nat, n = 20 - 0 + y := ⟨_, rfl⟩
        have hn21 : n ≤ 21 := by omega
        have hn22 : 0 + n ≤ 22 := by omega
        rw [← hn]
        clear hy hn hx hy1
        go_loopw [5, 7] (fun v i wr => ∃ (l : List ByteArray) (B : Option Addr) (d k : Nat), Hid (l.length = 0 + k) ∧ k ≤ n ∧ i = .int .i64 (k : Int) ∧ v = .slice B l.length d ∧ Hid (Le40 l) ∧ Hid (wr.ownsRow w.heap.size 9 1 (.slice B l.length d) l.length (strs l)) ∧ Hid (CurLe wr b A c (M + 30 + 22 * k) xs) ∧ Hid (w.grownBy wr (some b))) (fun _ i _ => n - (intOf i).toNat)
        case atStart => exact ⟨[], none, 0, 0, Lib.hid rfl, Nat.zero_le _, rfl, rfl, HSL, HOL, Lib.hid (HCL.out.more (by omega)), HGL⟩
        case round =>
          clear HSL HOL HCL HGL
          obtain ⟨l, B, d, k, HLK, hk, rfl, rfl, HS, HO, HC, HG⟩ := hrel
          have hll : l.length ≤ 22 := by have := HLK.out; omega
          by_cases hlt : k < n
          · have hlt' : (k : Int) < (n : Int) := by omega
            have hm1 : (k : Int) % 26 = (k : Int) := by omega
            have hq1 : (k : Int) / 26 = 0 := by omega
            have hw8 : IntKind.u8.wrap (97 + (k : Int)) = 97 + (k : Int) := by show (97 + (k : Int)) % 256 = _; omega
            have hcv := excB_run k (by omega) wr
            have hkb : (k : Int) ≤ 25 := by omega
            have hba := Below.alloc (Below.refl wr.heap.size wr) (Nat.le_refl _) (.cells #[.int .u8 (97 + (k : Int)), .int .u8 101, .int .u8 98, .int .u8 97] 5)
            have HCa : Hid (CurLe (wr.alloc (.cells #[.int .u8 (97 + (k : Int)), .int .u8 101, .int .u8 98, .int .u8 97] 5)) b A c (M + 30 + 22 * k) xs) := Lib.hid (HC.out.below hba)
            have HGa := Lib.hid (grown_below (World.grownBy.refl wr (some b)) hba)
            clear hba
            go_wp2_with fail
            refine (exception_any ⟨(excB k).toArray⟩ b c (M + 30 + 22 * k) A xs _ HCa.out (by omega) hxs (by show 4 ≤ 20; omega)).mono ?_
            rintro e w5 ⟨⟨s, hs9, rfl⟩, hc5, hg5'⟩
            have hg5 := grownBy_trans HGa.out hg5'
            clear hg5' HCa HGa hcv
            have HO5 := Lib.hid (own_grown HO.out hg5 (fun k hk e => by have := own_lt HO.out k hk; have := Option.some.inj e; omega))
            have HG5 := Lib.hid (grownBy_trans HG.out hg5)
            have HC5 := Lib.hid hc5
            have hsz5 : w.heap.size ≤ w5.heap.size := HG5.out.size
            have hmx : l.length + 1 ≤ maxLen := by unfold maxLen; omega
            clear hc5 hg5 HO HG HC
            go_wp2_with (at_builtin; refine wpList_append_own _ rfl _ _ 23 rfl w.heap.size 9 i0 (.string .empty) 1 16 Tryd.underlying23 HI0.out HZ0.out HZ1.out HZ2.out rfl (by decide) _ _ _ rfl (HO5.out.alloc _) ⟨w5.heap.size, 0, none⟩ 1 1 [.string s] rfl rfl (cell_one_new _ _ _) (by simp [Value.oneCell']) hmx (by omega) (by simp; omega) ?_)
            intro v' w6 hown' hgrow _
            have hrw := own_lt HO5.out
            have hal : w5.grownBy (w5.alloc (.cells #[.string s] 9)) (some b) := grownBy_alloc (World.grownBy.refl _ _) _
            have HC6 := Lib.hid ((HC5.out.below ((Below.refl _ _).alloc (Nat.le_refl _) (.cells #[.string s] 9))).ownH hgrow (fun k hk => by have := hrw k hk; omega))
            have HG6 := Lib.hid (grownBy_ownH (grownBy_trans HG5.out hal) hgrow (fun k hk => by have := hrw k hk; omega))
            have ho6 : w6.ownsRow w.heap.size 9 1 v' (l ++ [s]).length (strs (l ++ [s])) := by rw [List.length_append, strs_snoc]; exact hown'
            obtain ⟨B', d', hv6⟩ := own_shape ho6
            subst hv6
            have HO6 := Lib.hid ho6
            have HS6 := Lib.hid (HS.out.snoc (s := s) (by omega))
            have HL6 : Hid ((l ++ [s]).length = l.length + 1) := Lib.hid (by simp)
            clear hown' hgrow HO5 hal ho6
            go_wp2
            go_roundw
            case rel => exact ⟨l ++ [s], B', d', k + 1, Lib.hid (by rw [HL6.out]; have := HLK.out; omega), by omega, by go_num, rfl, HS6, HO6, Lib.hid (HC6.out.more (by omega)), HG6⟩
            case measure => simp [intOf]; omega
          · have hkn : k = n := by omega
            go_wp2
            go_ret
            exact ⟨⟨l, B, d, rfl, by omega, HS.out, HO.out⟩, HC.out.more (by omega), HG.out⟩
end Go.Proofs.YtcbhhbcfnaekpaaDoor

/-
  The draws of chapter 11, fifth part: spec.DrawHyphenPlaces, DrawPartsOfWord, DrawLastPlaceWithin, DrawMayBreakAt, DrawValuesOf, DrawNewException, DrawIsPattern: bounds alone.
-/
namespace Go.Proofs.YtcbhhbcfnaekpaaDoor
open Go.RowKit
set_option linter.unusedVariables false

def OwnS (w : World) (base : Nat) (B : Option Addr) (d : Nat) (l : List ByteArray) : Prop := w.ownsRow base 9 1 (.slice B l.length d) l.length (strs l)
theorem OwnS.grown {w w' : World} {base d b : Nat} {B : Option Addr} {l : List ByteArray} (h : OwnS w base B d l) (hg : w.grownBy w' (some b)) (hb : b < base) : OwnS w' base B d l :=
  own_grown h hg (fun k hk e => by have := own_lt h k hk; have := Option.some.inj e; omega)
theorem OwnS.below {w w' : World} {base d : Nat} {B : Option Addr} {l : List ByteArray} (h : OwnS w base B d l) (hb : Below w.heap.size w w') : OwnS w' base B d l := own_below h hb
theorem OwnS.le {w : World} {base base' d : Nat} {B : Option Addr} {l : List ByteArray} (h : OwnS w base B d l) (hb : base' ≤ base) : OwnS w base' B d l := Joins.ownsRow_le h hb
/-- Patterns, exceptions, a word. -/
structure Hp3 (w w' : World) (ps : List ByteArray) (B : Option Addr) (d : Nat) (es : List ByteArray) (B2 : Option Addr) (d2 : Nat) (wd : ByteArray) : Prop where
  pl : ps.length ≤ 22
  p40 : Le40 ps
  el : es.length ≤ 22
  e40 : Le40 es
  w20 : wd.size ≤ 20
  po : OwnS w' w.heap.size B d ps
  eo : OwnS w' w.heap.size B2 d2 es
  bel : Below w.heap.size w w'
theorem cur_new {w : World} {A : Option Addr} {c : Nat} {xs : List UInt8} (hx : BytesIn w A xs) : CurLe (w.alloc (.cells #[.slice A xs.length c, .int .i64 0, .int .u64 0] 71)) w.heap.size A c 0 xs := by
  refine ⟨⟨0, Nat.le_refl _, 0, by omega, heap_new _ _⟩, fun hn => ?_⟩
  obtain ⟨b', off, e, hl, hc⟩ := hx hn
  exact ⟨b', off, e, hl, fun k hk => (((Below.refl w.heap.size w).alloc (Nat.le_refl _) _).cell (by show b' < _; exact hl)).trans (hc k hk)⟩
set_option maxRecDepth 100000 in
set_option maxHeartbeats 1000000 in
theorem drawHp_any (A : Option Addr) (c : Nat) (xs : List UInt8) (w : World) (hx : BytesIn w A xs) (hxs : xs.length ≤ maxLen) :
    Calls Tryd.prog 48 #[.slice A xs.length c] w fun e w' => ∃ ps B d es B2 d2 wd, e = .returned (.tuple #[.slice B ps.length d, .slice B2 es.length d2, .string wd]) ∧ Hp3 w w' ps B d es B2 d2 wd := by
  have HCUR := Lib.hid (cur_new (c := c) hx)
  have HB0 : Hid (Below w.heap.size w (w.alloc (.cells #[.slice A xs.length c, .int .i64 0, .int .u64 0] 71))) := Lib.hid ((Below.refl _ _).alloc (Nat.le_refl _) _)
  have HZ0 : Hid (w.heap.size < (w.alloc (.cells #[.slice A xs.length c, .int .i64 0, .int .u64 0] 71)).heap.size) := Lib.hid (by simp)
  clear hx
  go_enter Tryd.func48, Tryd.ntmps48
  go_wp2_with fail
  refine (breaking_any w.heap.size c 0 A xs _ HCUR.out (by omega) hxs).mono ?_
  rintro e w1 ⟨⟨wd, hwd, rfl⟩, hc1, hg1⟩
  have HC1 := Lib.hid hc1
  have HB1 := Lib.hid (HB0.out.grown hg1 HB0.out.size (fun k hk => by have := Option.some.inj hk; omega))
  have HZ1 : Hid (w.heap.size < w1.heap.size) := Lib.hid hc1.lt
  clear hc1 hg1 HB0 HCUR HZ0
  go_wp2_with fail
  refine (patterns_any w.heap.size c (0 + 20) A xs w1 HC1.out (by omega) hxs).mono ?_
  rintro e w2 ⟨⟨ps, B, d, rfl, hpl, hp40, ho2⟩, hc2, hg2⟩
  have HC2 := Lib.hid hc2
  have HB2 := Lib.hid (HB1.out.grown hg2 HB1.out.size (fun k hk => by have := Option.some.inj hk; omega))
  have HP2 : Hid (OwnS w2 w1.heap.size B d ps) := Lib.hid ho2
  clear hc2 hg2 HB1 HC1 ho2
  go_wp2_with fail
  refine (exceptions_any wd w.heap.size c (0 + 20 + 200) A xs w2 HC2.out (by omega) hxs hwd).mono ?_
  rintro e w3 ⟨⟨es, B2, d2, rfl, hel, he40, ho3⟩, hc3, hg3⟩
  have HB3 := Lib.hid (HB2.out.grown hg3 HB2.out.size (fun k hk => by have := Option.some.inj hk; omega))
  have HP3 := Lib.hid ((HP2.out.grown hg3 HZ1.out).le (base' := w.heap.size) (by have := HZ1.out; omega))
  have HE3 : Hid (OwnS w3 w.heap.size B2 d2 es) := Lib.hid (OwnS.le (base := w2.heap.size) ho3 HB2.out.size)
  clear hc3 hg3 HB2 HC2 HP2 ho3
  go_wp2
  go_ret3
  exact ⟨ps, B, d, es, B2, d2, wd, rfl, ⟨hpl, hp40, hel, he40, hwd, HP3.out, HE3.out, HB3.out⟩⟩
theorem drawPw_any (A : Option Addr) (c : Nat) (xs : List UInt8) (w : World) (hx : BytesIn w A xs) (hxs : xs.length ≤ maxLen) :
    Calls Tryd.prog 12 #[.slice A xs.length c] w fun e w' => ∃ ps B d es B2 d2 wd, e = .returned (.tuple #[.slice B ps.length d, .slice B2 es.length d2, .string wd]) ∧ Hp3 w w' ps B d es B2 d2 wd := by
  go_enter Tryd.func12, Tryd.ntmps12
  go_wp2_with fail
  refine (drawHp_any A c xs w hx hxs).mono ?_
  rintro e w1 ⟨ps, B, d, es, B2, d2, wd, rfl, h⟩
  go_wp2
  go_ret3
  exact ⟨ps, B, d, es, B2, d2, wd, rfl, h⟩
def among3 : List Int := [5, -1, 17]
def among8 : List Int := [2, 3, 4, 1, 0, -1, 16, 9223372036854775807]
set_option maxRecDepth 100000 in
set_option maxHeartbeats 1000000 in
theorem drawLp_any (A : Option Addr) (c : Nat) (xs : List UInt8) (w : World) (hx : BytesIn w A xs) (hxs : xs.length ≤ maxLen) :
    Calls Tryd.prog 24 #[.slice A xs.length c] w fun e w' => ∃ ps B d es B2 d2 wd t, e = .returned (.tuple #[.slice B ps.length d, .slice B2 es.length d2, .string wd, .int .i64 t]) ∧ Hp3 w w' ps B d es B2 d2 wd := by
  have HCUR := Lib.hid (cur_new (c := c) hx)
  have HB0 : Hid (Below w.heap.size w (w.alloc (.cells #[.slice A xs.length c, .int .i64 0, .int .u64 0] 71))) := Lib.hid ((Below.refl _ _).alloc (Nat.le_refl _) _)
  have HZ0 : Hid (w.heap.size < (w.alloc (.cells #[.slice A xs.length c, .int .i64 0, .int .u64 0] 71)).heap.size) := Lib.hid (by simp)
  have HXA : Hid (BytesIn (w.alloc (.cells #[.slice A xs.length c, .int .i64 0, .int .u64 0] 71)) A xs) := Lib.hid (fun hn => by
    obtain ⟨b', off, e, hl, hc⟩ := hx hn
    exact ⟨b', off, e, by have := HZ0.out; omega, fun k hk => (HB0.out.cell (by show b' < _; exact hl)).trans (hc k hk)⟩)
  clear hx
  go_enter Tryd.func24, Tryd.ntmps24
  go_wp2_with fail
  refine (drawHp_any A c xs _ HXA.out hxs).mono ?_
  rintro e w1 ⟨ps, B, d, es, B2, d2, wd, rfl, h⟩
  have HC1 := Lib.hid (HCUR.out.below h.bel)
  have HB1 := Lib.hid (HB0.out.trans (h.bel.mono HB0.out.size))
  have HP1 := Lib.hid h.po; have HE1 := Lib.hid h.eo
  have HFX := Lib.hid (And.intro (And.intro h.pl h.p40) (And.intro (And.intro h.el h.e40) h.w20))
  clear h HB0 HCUR HXA
  generalize (w.alloc (.cells #[.slice A xs.length c, .int .i64 0, .int .u64 0] 71)).heap.size = K at *
  have hK := HZ0.out
  have hba := Below.alloc (Below.refl w1.heap.size w1) (Nat.le_refl _) (.cells (intsZ among3).toArray 3)
  have hcl := HC1.out.lt
  have HC2 := Lib.hid (HC1.out.below hba)
  have HP2 := Lib.hid (HP1.out.below hba); have HE2 := Lib.hid (HE1.out.below hba)
  have HB2 := Lib.hid (HB1.out.trans (hba.mono HB1.out.size))
  have HR2 := Lib.hid (row_intsH w1 among3)
  clear hba HC1 HP1 HE1 HB1
  go_wp2_with fail
  refine (among_any among3 w1.heap.size 3 w.heap.size c (0) A xs _ HC2.out (by omega) hxs HR2.out (by omega) (by decide) (by decide)).mono ?_
  rintro e w3 ⟨⟨z, hz, rfl⟩, hc3, hg3⟩
  have HC3 := Lib.hid hc3
  have HP3 := Lib.hid (HP2.out.grown hg3 hK); have HE3 := Lib.hid (HE2.out.grown hg3 hK)
  have HB3 := Lib.hid (HB2.out.grown hg3 HB2.out.size (fun k hk => by have := Option.some.inj hk; omega))
  have hba := Below.alloc (Below.refl w3.heap.size w3) (Nat.le_refl _) (.cells (intsZ [2, 3, 4, 6, 0, 16, z]).toArray 3)
  have hcl3 := hc3.lt
  have HC4 := Lib.hid (HC3.out.below hba)
  have HP4 := Lib.hid (HP3.out.below hba); have HE4 := Lib.hid (HE3.out.below hba)
  have HB4 := Lib.hid (HB3.out.trans (hba.mono HB3.out.size))
  have HR4 := Lib.hid (row_intsH w3 [2, 3, 4, 6, 0, 16, z])
  clear hba hc3 hg3 HC2 HP2 HE2 HB2 HR2 HC3 HP3 HE3 HB3
  go_wp2_with fail
  refine (among_any [2, 3, 4, 6, 0, 16, z] w3.heap.size 7 w.heap.size c (0 + 1) A xs _ HC4.out (by omega) hxs HR4.out (by omega) (by simp) (by simp)).mono ?_
  rintro e w5 ⟨⟨t, ht, rfl⟩, hc5, hg5⟩
  have HP5 := Lib.hid ((HP4.out.grown hg5 hK).le (base' := w.heap.size) (by omega)); have HE5 := Lib.hid ((HE4.out.grown hg5 hK).le (base' := w.heap.size) (by omega))
  have HB5 := Lib.hid (HB4.out.grown hg5 HB4.out.size (fun k hk => by have := Option.some.inj hk; omega))
  clear hc5 hg5 HC4 HP4 HE4 HB4 HR4
  go_wp2
  refine bodyPost_ret (v := .tuple #[.slice B ps.length d, .slice B2 es.length d2, .string wd, .int .i64 t]) (by simp [results, Tryd.results24, go_sem]) rfl ?_
  exact ⟨ps, B, d, es, B2, d2, wd, t, rfl, ⟨HFX.out.1.1, HFX.out.1.2, HFX.out.2.1.1, HFX.out.2.1.2, HFX.out.2.2, HP5.out, HE5.out, HB5.out⟩⟩
set_option maxRecDepth 100000 in
set_option maxHeartbeats 1000000 in
theorem drawMb_any (A : Option Addr) (c : Nat) (xs : List UInt8) (w : World) (hx : BytesIn w A xs) (hxs : xs.length ≤ maxLen) :
    Calls Tryd.prog 27 #[.slice A xs.length c] w fun e w' => ∃ ps B d es B2 d2 wd t, e = .returned (.tuple #[.slice B ps.length d, .slice B2 es.length d2, .string wd, .int .i64 t]) ∧ Hp3 w w' ps B d es B2 d2 wd := by
  have HCUR := Lib.hid (cur_new (c := c) hx)
  have HB0 : Hid (Below w.heap.size w (w.alloc (.cells #[.slice A xs.length c, .int .i64 0, .int .u64 0] 71))) := Lib.hid ((Below.refl _ _).alloc (Nat.le_refl _) _)
  have HZ0 : Hid (w.heap.size < (w.alloc (.cells #[.slice A xs.length c, .int .i64 0, .int .u64 0] 71)).heap.size) := Lib.hid (by simp)
  have HXA : Hid (BytesIn (w.alloc (.cells #[.slice A xs.length c, .int .i64 0, .int .u64 0] 71)) A xs) := Lib.hid (fun hn => by
    obtain ⟨b', off, e, hl, hc⟩ := hx hn
    exact ⟨b', off, e, by have := HZ0.out; omega, fun k hk => (HB0.out.cell (by show b' < _; exact hl)).trans (hc k hk)⟩)
  clear hx
  go_enter Tryd.func27, Tryd.ntmps27
  go_wp2_with fail
  refine (drawHp_any A c xs _ HXA.out hxs).mono ?_
  rintro e w1 ⟨ps, B, d, es, B2, d2, wd, rfl, h⟩
  have HC1 := Lib.hid (HCUR.out.below h.bel)
  have HB1 := Lib.hid (HB0.out.trans (h.bel.mono HB0.out.size))
  have HP1 := Lib.hid h.po; have HE1 := Lib.hid h.eo
  have HFX := Lib.hid (And.intro (And.intro h.pl h.p40) (And.intro (And.intro h.el h.e40) h.w20))
  clear h HB0 HCUR HXA
  generalize (w.alloc (.cells #[.slice A xs.length c, .int .i64 0, .int .u64 0] 71)).heap.size = K at *
  have hK := HZ0.out
  have hba := Below.alloc (Below.refl w1.heap.size w1) (Nat.le_refl _) (.cells (intsZ among8).toArray 3)
  have hcl := HC1.out.lt
  have HC2 := Lib.hid (HC1.out.below hba)
  have HP2 := Lib.hid (HP1.out.below hba); have HE2 := Lib.hid (HE1.out.below hba)
  have HB2 := Lib.hid (HB1.out.trans (hba.mono HB1.out.size))
  have HR2 := Lib.hid (row_intsH w1 among8)
  clear hba HC1 HP1 HE1 HB1
  go_wp2_with fail
  refine (among_any among8 w1.heap.size 8 w.heap.size c (0) A xs _ HC2.out (by omega) hxs HR2.out (by omega) (by decide) (by decide)).mono ?_
  rintro e w5 ⟨⟨t, ht, rfl⟩, hc5, hg5⟩
  have HP5 := Lib.hid ((HP2.out.grown hg5 hK).le (base' := w.heap.size) (by omega)); have HE5 := Lib.hid ((HE2.out.grown hg5 hK).le (base' := w.heap.size) (by omega))
  have HB5 := Lib.hid (HB2.out.grown hg5 HB2.out.size (fun k hk => by have := Option.some.inj hk; omega))
  clear hc5 hg5 HC2 HP2 HE2 HB2 HR2
  go_wp2
  refine bodyPost_ret (v := .tuple #[.slice B ps.length d, .slice B2 es.length d2, .string wd, .int .i64 t]) (by simp [results, Tryd.results27, go_sem]) rfl ?_
  exact ⟨ps, B, d, es, B2, d2, wd, t, rfl, ⟨HFX.out.1.1, HFX.out.1.2, HFX.out.2.1.1, HFX.out.2.1.2, HFX.out.2.2, HP5.out, HE5.out, HB5.out⟩⟩
/-- A list of texts and a text. -/
structure Ls2 (w w' : World) (l : List ByteArray) (B : Option Addr) (d : Nat) (s : ByteArray) : Prop where
  ll : l.length ≤ 22
  l40 : Le40 l
  s40 : s.size ≤ 40
  own : OwnS w' w.heap.size B d l
  bel : Below w.heap.size w w'
set_option maxRecDepth 100000 in
set_option maxHeartbeats 1000000 in
theorem drawVo_any (A : Option Addr) (c : Nat) (xs : List UInt8) (w : World) (hx : BytesIn w A xs) (hxs : xs.length ≤ maxLen) :
    Calls Tryd.prog 29 #[.slice A xs.length c] w fun e w' => ∃ l B d s, e = .returned (.tuple #[.slice B l.length d, .string s]) ∧ Ls2 w w' l B d s := by
  have HCUR := Lib.hid (cur_new (c := c) hx)
  have HB0 : Hid (Below w.heap.size w (w.alloc (.cells #[.slice A xs.length c, .int .i64 0, .int .u64 0] 71))) := Lib.hid ((Below.refl _ _).alloc (Nat.le_refl _) _)
  have HZ0 : Hid (w.heap.size < (w.alloc (.cells #[.slice A xs.length c, .int .i64 0, .int .u64 0] 71)).heap.size) := Lib.hid (by simp)
  clear hx
  go_enter Tryd.func29, Tryd.ntmps29
  go_wp2_with fail
  refine (patterns_any w.heap.size c 0 A xs _ HCUR.out (by omega) hxs).mono ?_
  rintro e w2 ⟨⟨ps, B, d, rfl, hpl, hp40, ho2⟩, hc2, hg2⟩
  have HC2 := Lib.hid hc2
  have HB2 := Lib.hid (HB0.out.grown hg2 HB0.out.size (fun k hk => by have := Option.some.inj hk; omega))
  have HP2 : Hid (OwnS w2 (w.alloc (.cells #[.slice A xs.length c, .int .i64 0, .int .u64 0] 71)).heap.size B d ps) := Lib.hid ho2
  clear hc2 hg2 HB0 HCUR ho2
  generalize (w.alloc (.cells #[.slice A xs.length c, .int .i64 0, .int .u64 0] 71)).heap.size = K at *
  have hK := HZ0.out
  go_wp2_with fail
  refine (breaking_any w.heap.size c (0 + 200) A xs w2 HC2.out (by omega) hxs).mono ?_
  rintro e w3 ⟨⟨wd, hwd, rfl⟩, hc3, hg3⟩
  have HB3 := Lib.hid (HB2.out.grown hg3 HB2.out.size (fun k hk => by have := Option.some.inj hk; omega))
  have HP3 := Lib.hid ((HP2.out.grown hg3 hK).le (base' := w.heap.size) (by omega))
  clear hc3 hg3 HB2 HC2 HP2
  go_wp2
  go_ret2
  exact ⟨ps, B, d, wd, rfl, ⟨hpl, hp40, by omega, HP3.out, HB3.out⟩⟩
set_option maxRecDepth 100000 in
set_option maxHeartbeats 1000000 in
theorem drawNe_any (A : Option Addr) (c : Nat) (xs : List UInt8) (w : World) (hx : BytesIn w A xs) (hxs : xs.length ≤ maxLen) :
    Calls Tryd.prog 32 #[.slice A xs.length c] w fun e w' => ∃ l B d s, e = .returned (.tuple #[.slice B l.length d, .string s]) ∧ Ls2 w w' l B d s := by
  have HCUR := Lib.hid (cur_new (c := c) hx)
  have HB0 : Hid (Below w.heap.size w (w.alloc (.cells #[.slice A xs.length c, .int .i64 0, .int .u64 0] 71))) := Lib.hid ((Below.refl _ _).alloc (Nat.le_refl _) _)
  have HZ0 : Hid (w.heap.size < (w.alloc (.cells #[.slice A xs.length c, .int .i64 0, .int .u64 0] 71)).heap.size) := Lib.hid (by simp)
  clear hx
  go_enter Tryd.func32, Tryd.ntmps32
  go_wp2_with fail
  refine (breaking_any w.heap.size c 0 A xs _ HCUR.out (by omega) hxs).mono ?_
  rintro e w1 ⟨⟨wd, hwd, rfl⟩, hc1, hg1⟩
  have HC1 := Lib.hid hc1
  have HB1 := Lib.hid (HB0.out.grown hg1 HB0.out.size (fun k hk => by have := Option.some.inj hk; omega))
  have HZ1 : Hid (w.heap.size < w1.heap.size) := Lib.hid hc1.lt
  clear hc1 hg1 HB0 HCUR HZ0
  go_wp2_with fail
  refine (exceptions_any wd w.heap.size c (0 + 20) A xs w1 HC1.out (by omega) hxs hwd).mono ?_
  rintro e w2 ⟨⟨es, B, d, rfl, hel, he40, ho2⟩, hc2, hg2⟩
  have HC2 := Lib.hid hc2
  have HB2 := Lib.hid (HB1.out.grown hg2 HB1.out.size (fun k hk => by have := Option.some.inj hk; omega))
  have HP2 : Hid (OwnS w2 w1.heap.size B d es) := Lib.hid ho2
  have hcl2 := hc2.lt
  have hba := Below.alloc (Below.refl w2.heap.size w2) (Nat.le_refl _) (.cells (strs [wd, wd, ⟨#[97, 101, 98, 97]⟩, ⟨#[98, 101, 98, 97]⟩, ⟨#[99, 97, 98]⟩]).toArray 9)
  have HC3 := Lib.hid (HC2.out.below hba)
  have HP3 := Lib.hid (HP2.out.below hba)
  have HB3 := Lib.hid (HB2.out.trans (hba.mono HB2.out.size))
  have HR3 := Lib.hid (row_strs w2 [wd, wd, ⟨#[97, 101, 98, 97]⟩, ⟨#[98, 101, 98, 97]⟩, ⟨#[99, 97, 98]⟩])
  have hK := HZ1.out
  clear hc2 hg2 HB1 HC1 ho2 hba HC2 HP2 HB2
  go_wp2_with fail
  refine (of_any [wd, wd, ⟨#[97, 101, 98, 97]⟩, ⟨#[98, 101, 98, 97]⟩, ⟨#[99, 97, 98]⟩] w2.heap.size 5 w.heap.size c (0 + 20 + 500) A xs _ HC3.out (by omega) hxs HR3.out (by omega) (by simp) (by simp)).mono ?_
  rintro e w4 ⟨⟨t, ht, rfl⟩, hc4, hg4⟩
  have ht20 : t.size ≤ 20 := by
    simp only [List.mem_cons, List.not_mem_nil, or_false] at ht
    rcases ht with rfl | rfl | rfl | rfl | rfl
    · exact hwd
    · exact hwd
    · decide
    · decide
    · decide
  have HC4 := Lib.hid hc4
  have HP4 := Lib.hid (HP3.out.grown hg4 hK)
  have HB4 := Lib.hid (HB3.out.grown hg4 HB3.out.size (fun k hk => by have := Option.some.inj hk; omega))
  clear hc4 hg4 HC3 HP3 HB3 HR3 ht
  go_wp2_with fail
  refine (exception_any t w.heap.size c (0 + 20 + 500 + 1) A xs w4 HC4.out (by omega) hxs ht20).mono ?_
  rintro e w5 ⟨⟨s, hs, rfl⟩, hc5, hg5⟩
  have HP5 := Lib.hid ((HP4.out.grown hg5 hK).le (base' := w.heap.size) (by omega))
  have HB5 := Lib.hid (HB4.out.grown hg5 HB4.out.size (fun k hk => by have := Option.some.inj hk; omega))
  clear hc5 hg5 HC4 HP4 HB4
  go_wp2
  go_ret2
  exact ⟨es, B, d, s, rfl, ⟨hel, he40, hs, HP5.out, HB5.out⟩⟩
set_option maxRecDepth 100000 in
theorem drawIp_any (A : Option Addr) (c : Nat) (xs : List UInt8) (w : World) (hx : BytesIn w A xs) (hxs : xs.length ≤ maxLen) :
    Calls Tryd.prog 37 #[.slice A xs.length c] w fun e w' => (∃ s : ByteArray, s.size ≤ 20 ∧ e = .returned (.string s)) ∧ Below w.heap.size w w' := by
  have HCUR := Lib.hid (cur_new (c := c) hx)
  have HB0 : Hid (Below w.heap.size w (w.alloc (.cells #[.slice A xs.length c, .int .i64 0, .int .u64 0] 71))) := Lib.hid ((Below.refl _ _).alloc (Nat.le_refl _) _)
  have HZ0 : Hid (w.heap.size < (w.alloc (.cells #[.slice A xs.length c, .int .i64 0, .int .u64 0] 71)).heap.size) := Lib.hid (by simp)
  clear hx
  go_enter Tryd.func37, Tryd.ntmps37
  go_wp2_with fail
  refine (pattern_any w.heap.size c 0 A xs _ HCUR.out (by omega) hxs).mono ?_
  rintro e w1 ⟨⟨s, hs, rfl⟩, hc1, hg1⟩
  have HB1 := Lib.hid (HB0.out.grown hg1 HB0.out.size (fun k hk => by have := Option.some.inj hk; omega))
  clear hc1 hg1
  go_wp2
  go_ret
  exact ⟨⟨s, hs, rfl⟩, HB1.out⟩
end Go.Proofs.YtcbhhbcfnaekpaaDoor
