/-
  The contracts of sortedValues with each function that it is given, of middleOff, and of SpreadOff, MedianOff, CorrectionFor and LeastTolerance, in spec and in impl.
-/
import Derived.Test.YtbepgjknjopikaaYk
import Derived.Test.YtbepgjknjopikaaYl
import Derived.Sort.OwnSortedInts
namespace Go.Proofs.Ytbepgjknjopikaa
open Go.RowKit
set_option linter.unusedVariables false

theorem max_is {l : List Int} (h : 0 < l.length) : Lib.maxOf l ∈ l ∧ ∀ x ∈ l, x ≤ Lib.maxOf l := by
  have hs : ∀ (r : List Int) (a : Int), (r.foldl max a = a ∨ r.foldl max a ∈ r) ∧ a ≤ r.foldl max a ∧ ∀ x ∈ r, x ≤ r.foldl max a := by
    intro r
    induction r with
    | nil => intro a; simp
    | cons y r ih =>
      intro a
      obtain ⟨h1, h2, h3⟩ := ih (max a y)
      refine ⟨?_, by show a ≤ r.foldl max (max a y); omega, fun x hx => ?_⟩
      · show r.foldl max (max a y) = a ∨ r.foldl max (max a y) ∈ y :: r
        rcases h1 with h1 | h1
        · rcases Int.le_total a y with h4 | h4
          · exact .inr (by rw [h1, Int.max_eq_right h4]; exact List.mem_cons_self)
          · exact .inl (by rw [h1, Int.max_eq_left h4])
        · exact .inr (List.mem_cons_of_mem _ h1)
      · show x ≤ r.foldl max (max a y)
        rcases List.mem_cons.1 hx with rfl | hx
        · omega
        · exact h3 x hx
  cases l with
  | nil => simp at h
  | cons y r =>
    obtain ⟨h1, h2, h3⟩ := hs r y
    have e : Lib.maxOf (y :: r) = r.foldl max y := by simp [Lib.maxOf]
    rw [e]
    refine ⟨?_, fun x hx => ?_⟩
    · rcases h1 with h1 | h1
      · rw [h1]; exact List.mem_cons_self
      · exact List.mem_cons_of_mem _ h1
    · rcases List.mem_cons.1 hx with rfl | hx
      · exact h2
      · exact h3 x hx
theorem min_is {l : List Int} (h : 0 < l.length) : Lib.minOf l ∈ l ∧ ∀ x ∈ l, Lib.minOf l ≤ x := by
  have hs : ∀ (r : List Int) (a : Int), (r.foldl min a = a ∨ r.foldl min a ∈ r) ∧ r.foldl min a ≤ a ∧ ∀ x ∈ r, r.foldl min a ≤ x := by
    intro r
    induction r with
    | nil => intro a; simp
    | cons y r ih =>
      intro a
      obtain ⟨h1, h2, h3⟩ := ih (min a y)
      refine ⟨?_, by show r.foldl min (min a y) ≤ a; omega, fun x hx => ?_⟩
      · show r.foldl min (min a y) = a ∨ r.foldl min (min a y) ∈ y :: r
        rcases h1 with h1 | h1
        · rcases Int.le_total a y with h4 | h4
          · exact .inl (by rw [h1, Int.min_eq_left h4])
          · exact .inr (by rw [h1, Int.min_eq_right h4]; exact List.mem_cons_self)
        · exact .inr (List.mem_cons_of_mem _ h1)
      · show r.foldl min (min a y) ≤ x
        rcases List.mem_cons.1 hx with rfl | hx
        · omega
        · exact h3 x hx
  cases l with
  | nil => simp at h
  | cons y r =>
    obtain ⟨h1, h2, h3⟩ := hs r y
    have e : Lib.minOf (y :: r) = r.foldl min y := by simp [Lib.minOf]
    rw [e]
    refine ⟨?_, fun x hx => ?_⟩
    · rcases h1 with h1 | h1
      · rw [h1]; exact List.mem_cons_self
      · exact List.mem_cons_of_mem _ h1
    · rcases List.mem_cons.1 hx with rfl | hx
      · exact h2
      · exact h3 x hx
theorem spr_max {l : List Int} (h : 0 < l.length) : (srt l).getD (l.length - 1) 0 = Lib.maxOf l := srt_greatest h (max_is h).1 (max_is h).2
theorem spr_min {l : List Int} (h : 0 < l.length) : (srt l).getD 0 0 = Lib.minOf l := srt_least h (min_is h).1 (min_is h).2

/-- The box of the slice. -/
def Bx (w : World) (g : Nat) (A : Option Addr) (n c : Nat) : Prop := w.cell? ⟨g, 0, none⟩ = some (.slice A n c) ∧ g < w.heap.size
theorem Bx.below {w w' : World} {g n c B : Nat} {A : Option Addr} (h : Bx w g A n c) (hb : Below B w w') (hB : g < B) : Bx w' g A n c :=
  ⟨(hb.cell (p := ⟨g, 0, none⟩) hB).trans h.1, Nat.lt_of_lt_of_le h.2 hb.size⟩
theorem middleOff1_any (l : List Int) (A : Option Addr) (c g : Nat) (i : Nat) (w : World) (hx : Bx w g A l.length c) (hf : IntsIn w A l) (hi : i < l.length) (hn : l.length ≤ 40) :
    Calls Try.prog 72 #[.int .i64 (i : Int), .pointer (some ⟨g, 0, none⟩)] w fun e w' => e = .returned (.int .i64 l[i]) ∧ w = w' := by
  obtain ⟨hx1, hx2⟩ := hx
  obtain ⟨b, off, rfl, hbl, hc⟩ := hf (by omega)
  have hc0 := hc i hi
  clear hc
  have hi0 : (0 : Int) ≤ (i : Int) := by omega
  have hi2 : (i : Int) < (l.length : Int) := by omega
  generalize l[i] = x at *
  go_enter Try.func72, Try.ntmps72
  go_wp2
  go_ret
  exact ⟨rfl, rfl⟩
theorem leastTol1_any (l : List Int) (A : Option Addr) (c g : Nat) (i : Nat) (w : World) (hx : Bx w g A l.length c) (hf : IntsIn w A l) (hi : i < l.length) (hn : l.length ≤ 40) (hr : -500 ≤ l[i] ∧ l[i] ≤ 500) :
    Calls Try.prog 63 #[.int .i64 (i : Int), .pointer (some ⟨g, 0, none⟩)] w fun e w' => e = .returned (.int .i64 (absI l[i])) ∧ w = w' := by
  obtain ⟨hx1, hx2⟩ := hx
  obtain ⟨b, off, rfl, hbl, hc⟩ := hf (by omega)
  have hc0 := hc i hi
  clear hc
  have hi0 : (0 : Int) ≤ (i : Int) := by omega
  have hi2 : (i : Int) < (l.length : Int) := by omega
  generalize l[i] = x at *
  go_enter Try.func63, Try.ntmps63
  go_wp2_with fail
  refine (distance0_any _ _ (by omega) (by omega)).mono ?_
  rintro e w' ⟨rfl, rfl⟩
  go_wp2
  go_ret
  exact ⟨rfl, rfl⟩
/-- Behind the library's sort the table is a row of its own. -/
theorem sorted_row {w wr : World} {g n : Nat} {os : Array Obj} {L : List Int} {base : Nat} (hm : Marked wr g 3 L.length (intsZ L)) (hbase : base ≤ g) (hl : L.length ≤ maxLen) (hb : Below base w wr) (hsz : base ≤ wr.heap.size) :
    Below base w (Sort.grow (Sort.putRow (Value.int .i64) (Sort.ahead wr n) g 0 (L.mergeSort fun x y => decide (x ≤ y)).toArray) os) ∧
    (Sort.grow (Sort.putRow (Value.int .i64) (Sort.ahead wr n) g 0 (L.mergeSort fun x y => decide (x ≤ y)).toArray) os).ownsRow base 3 1 (.slice (some ⟨g, 0, none⟩) L.length L.length) L.length (intsZ (srt L)) := by
  obtain ⟨cur, h1, h2, h3⟩ := hm
  have e : (L.mergeSort fun x y => decide (x ≤ y)).length = L.length := srt_len L
  refine ⟨hb.grown (grownBy_sortedI _ ) hsz (fun k hk => by have : g = k := Option.some.inj hk; omega), ?_⟩
  exact ownsRow_sortedI (ss := L) (ts := srt L) (srt_len L) hbase h1 (Nat.le_refl _) hl (by omega)
set_option maxRecDepth 100000 in
theorem sortedMid_any (L : List Int) (p : Addr) (w : World) (hn : L.length ≤ 40)
    (hcall : ∀ W, Below w.heap.size w W → ∀ i (h : i < L.length), Calls Try.prog 72 #[.int .i64 (i : Int), .pointer (some p)] W fun e w' => e = .returned (.int .i64 L[i]) ∧ W = w') :
    Calls Try.prog 62 #[.int .i64 (L.length : Int), .func (.func 72) #[] #[.pointer (some p)]] w fun e w' => RowTo w w' e (srt L) := by
  have HC := Lib.hid hcall; clear hcall
  have hmk := run_makeInt L.length (by omega)
  have hst : Marked (w.alloc (.cells (madeCells #[.int .i64 0] (L.length * 1)) 3)) w.heap.size 3 L.length (intsZ (L.take 0)) := ⟨_, heap_new _ _, by rw [size_madeCells]; omega, by simp [intsZ]⟩
  have HST := Lib.hid hst
  have HB4 := Lib.hid ((Below.refl w.heap.size w).alloc (Nat.le_refl _) (.cells (madeCells #[.int .i64 0] (L.length * 1)) 3))
  clear hst
  generalize hz : madeCells #[.int .i64 0] (L.length * 1) = cs0 at *
  clear hz
  go_enter Try.func62, Try.ntmps62
  go_wp2
  go_loopw [10] (fun i wr => ∃ k : Nat, k ≤ L.length ∧ i = .int .i64 (k : Int) ∧ Marked wr w.heap.size 3 L.length (intsZ (L.take k)) ∧ Below w.heap.size w wr) (fun i _ => L.length - (intOf i).toNat)
  case atStart => exact ⟨0, by omega, rfl, HST.out, HB4.out⟩
  case round =>
    obtain ⟨k, hk, rfl, hmd, hb⟩ := hrel
    have HMD := Lib.hid hmd; have HB := Lib.hid hb
    clear hmk hmd hb
    by_cases hlt : k < L.length
    · have hk0 : (0 : Int) ≤ (k : Int) := by omega
      have hk2 : (k : Int) < (L.length : Int) := by omega
      have HCK := Lib.hid (HC.out wr HB.out k hlt)
      have HE := Lib.hid (List.take_succ_eq_append_getElem hlt)
      go_wp2_with fail
      refine HCK.out.mono ?_
      rintro e w' ⟨rfl, rfl⟩
      generalize L[k] = x at *
      obtain ⟨⟨z0, hz0⟩, hfz⟩ := HMD.out.at_ hlt
      have HM2 : Hid (Marked (wr.setCell ⟨w.heap.size, k, none⟩ (.int .i64 x)) w.heap.size 3 L.length (intsZ (L.take (k + 1)))) := Lib.hid (by
        rw [HE.out, intsZ_snoc]
        exact HMD.out.stepAt k (by rw [intsZ_len, List.length_take]; omega) hlt _)
      have HB2 := Lib.hid (HB.out.setCell (p := ⟨w.heap.size, k, none⟩) (Nat.le_refl _) (.int .i64 x))
      clear HCK HMD HB
      go_wp2
      go_roundw
      case rel => exact ⟨k + 1, by omega, by go_num, HM2.out, HB2.out⟩
      case measure => simp [intOf]; omega
    · obtain rfl : k = L.length := by omega
      have hm : Marked wr w.heap.size 3 L.length (intsZ L) := by have h := HMD.out; rw [List.take_length] at h; exact h
      have HM := Lib.hid hm
      obtain ⟨cur, h1, h2, h3⟩ := hm
      have hH : Sort.Holds (Value.int .i64) wr w.heap.size 0 L.toArray := holds_of_blockI h1 (by rw [← intsZ_len L]; exact h3)
      have HH := Lib.hid hH
      have hgl := lt_of_heap h1
      clear hH h1 h2 h3
      go_wp2_with fail
      refine (Try.slices_Sort_int w.heap.size 0 L.length L wr HH.out hgl (by omega)).mono ?_
      rintro e w' ⟨rfl, n, os, rfl⟩
      have hsr := sorted_row (n := n) (os := os) HM.out (Nat.le_refl _) (by unfold maxLen; omega) HB.out (by omega)
      have HSR := Lib.hid hsr
      clear hsr
      generalize Sort.grow (Sort.putRow (Value.int .i64) (Sort.ahead wr n) w.heap.size 0 (L.mergeSort fun x y => decide (x ≤ y)).toArray) os = W at *
      go_wp2
      go_ret
      exact ⟨_, rfl, HSR.out.1, by rw [srt_len]; exact HSR.out.2⟩
set_option maxRecDepth 100000 in
theorem sortedTol_any (L : List Int) (p : Addr) (w : World) (hn : L.length ≤ 40)
    (hcall : ∀ W, Below w.heap.size w W → ∀ i (h : i < L.length), Calls Try.prog 63 #[.int .i64 (i : Int), .pointer (some p)] W fun e w' => e = .returned (.int .i64 L[i]) ∧ W = w') :
    Calls Try.prog 62 #[.int .i64 (L.length : Int), .func (.func 63) #[] #[.pointer (some p)]] w fun e w' => RowTo w w' e (srt L) := by
  have HC := Lib.hid hcall; clear hcall
  have hmk := run_makeInt L.length (by omega)
  have hst : Marked (w.alloc (.cells (madeCells #[.int .i64 0] (L.length * 1)) 3)) w.heap.size 3 L.length (intsZ (L.take 0)) := ⟨_, heap_new _ _, by rw [size_madeCells]; omega, by simp [intsZ]⟩
  have HST := Lib.hid hst
  have HB4 := Lib.hid ((Below.refl w.heap.size w).alloc (Nat.le_refl _) (.cells (madeCells #[.int .i64 0] (L.length * 1)) 3))
  clear hst
  generalize hz : madeCells #[.int .i64 0] (L.length * 1) = cs0 at *
  clear hz
  go_enter Try.func62, Try.ntmps62
  go_wp2
  go_loopw [10] (fun i wr => ∃ k : Nat, k ≤ L.length ∧ i = .int .i64 (k : Int) ∧ Marked wr w.heap.size 3 L.length (intsZ (L.take k)) ∧ Below w.heap.size w wr) (fun i _ => L.length - (intOf i).toNat)
  case atStart => exact ⟨0, by omega, rfl, HST.out, HB4.out⟩
  case round =>
    obtain ⟨k, hk, rfl, hmd, hb⟩ := hrel
    have HMD := Lib.hid hmd; have HB := Lib.hid hb
    clear hmk hmd hb
    by_cases hlt : k < L.length
    · have hk0 : (0 : Int) ≤ (k : Int) := by omega
      have hk2 : (k : Int) < (L.length : Int) := by omega
      have HCK := Lib.hid (HC.out wr HB.out k hlt)
      have HE := Lib.hid (List.take_succ_eq_append_getElem hlt)
      go_wp2_with fail
      refine HCK.out.mono ?_
      rintro e w' ⟨rfl, rfl⟩
      generalize L[k] = x at *
      obtain ⟨⟨z0, hz0⟩, hfz⟩ := HMD.out.at_ hlt
      have HM2 : Hid (Marked (wr.setCell ⟨w.heap.size, k, none⟩ (.int .i64 x)) w.heap.size 3 L.length (intsZ (L.take (k + 1)))) := Lib.hid (by
        rw [HE.out, intsZ_snoc]
        exact HMD.out.stepAt k (by rw [intsZ_len, List.length_take]; omega) hlt _)
      have HB2 := Lib.hid (HB.out.setCell (p := ⟨w.heap.size, k, none⟩) (Nat.le_refl _) (.int .i64 x))
      clear HCK HMD HB
      go_wp2
      go_roundw
      case rel => exact ⟨k + 1, by omega, by go_num, HM2.out, HB2.out⟩
      case measure => simp [intOf]; omega
    · obtain rfl : k = L.length := by omega
      have hm : Marked wr w.heap.size 3 L.length (intsZ L) := by have h := HMD.out; rw [List.take_length] at h; exact h
      have HM := Lib.hid hm
      obtain ⟨cur, h1, h2, h3⟩ := hm
      have hH : Sort.Holds (Value.int .i64) wr w.heap.size 0 L.toArray := holds_of_blockI h1 (by rw [← intsZ_len L]; exact h3)
      have HH := Lib.hid hH
      have hgl := lt_of_heap h1
      clear hH h1 h2 h3
      go_wp2_with fail
      refine (Try.slices_Sort_int w.heap.size 0 L.length L wr HH.out hgl (by omega)).mono ?_
      rintro e w' ⟨rfl, n, os, rfl⟩
      have hsr := sorted_row (n := n) (os := os) HM.out (Nat.le_refl _) (by unfold maxLen; omega) HB.out (by omega)
      have HSR := Lib.hid hsr
      clear hsr
      generalize Sort.grow (Sort.putRow (Value.int .i64) (Sort.ahead wr n) w.heap.size 0 (L.mergeSort fun x y => decide (x ≤ y)).toArray) os = W at *
      go_wp2
      go_ret
      exact ⟨_, rfl, HSR.out.1, by rw [srt_len]; exact HSR.out.2⟩
end Go.Proofs.Ytbepgjknjopikaa
