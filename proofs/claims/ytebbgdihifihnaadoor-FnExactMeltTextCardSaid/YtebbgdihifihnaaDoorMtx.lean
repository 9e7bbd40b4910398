/-
  MeltText: the text in plain words, and the contracts of spec.meText, spec.MeltText and impl.MeltText (impl's where the library's table of powers is as the program lays it).
-/
import Derived.Test.YtebbgdihifihnaaDoorNum4
import Derived.Test.YtebbgdihifihnaaDoorMdr
import Derived.Test.YtebbgdihifihnaaDoorShz
import Derived.Lib.Join
import Derived.Lib.AppendIntMem
namespace Go.Proofs.YtebbgdihifihnaaDoor
open Go.RowKit
set_option linter.unusedVariables false

def sepM : ByteArray := ⟨#[45]⟩
def numB (z : Int) : ByteArray := baOf (Lib.decDigits z.toNat)
def txtM (m : Me) : ByteArray := numB m.lea ++ sepM ++ numB m.tin ++ sepM ++ numB m.ant
def mtxV (m : Me) : ByteArray := if goodM m then txtM m else ⟨#[]⟩
theorem mtx_no {m : Me} (h : goodM m = false) : mtxV m = ⟨#[]⟩ := by unfold mtxV; rw [h]; rfl
theorem mtx_yes {m : Me} (h : goodM m = true) : mtxV m = txtM m := by unfold mtxV; rw [h]; rfl
theorem numB_size {z : Int} (h : 0 ≤ z ∧ z ≤ 1000000) : (numB z).size ≤ 1000001 := by
  unfold numB; rw [baOf_size, Lib.decDigits_length]; exact Nat.le_trans (nDig_le _) (by omega)
theorem numB_itoa {z : Int} (h : 0 ≤ z) : baOf (Lib.itoa z) = numB z := by
  obtain ⟨n, rfl⟩ := Int.eq_ofNat_of_zero_le h
  rw [Lib.itoa_nonneg]; rfl
theorem num_any (z : Int) (D : ByteArray) (W : World) (h : 0 ≤ z ∧ z ≤ 1000000) (hD : numB z = D) : Calls Tryd.prog 81 #[.int .i64 z] W fun e w' => e = .returned (.string D) ∧ Below W.heap.size W w' := by
  have := l1Num_any z.toNat z.toNat W (Nat.le_refl _) (by omega)
  rw [Int.toNat_of_nonneg (by omega)] at this
  rw [← hD]
  exact this
theorem sepM_size : sepM.size = 1 := rfl
theorem ret_strb {a a' : ByteArray} {b b' : Bool} (h1 : a = a') (h2 : b = b') : Ending.returned (.tuple #[.string a, .bool b]) = .returned (.tuple #[.string a', .bool b']) := by rw [h1, h2]

set_option maxRecDepth 100000 in
set_option maxHeartbeats 2000000 in
theorem meText_any (s : Me) (w : World) (hg : goodM s = true) :
    Calls Tryd.prog 59 #[.agg #[.int .i64 s.lea, .int .i64 s.tin, .int .i64 s.ant]] w fun e w' => e = .returned (.string (txtM s)) ∧ Below w.heap.size w w' := by
  obtain ⟨b0, b1, b2⟩ := goodM_bounds hg
  obtain ⟨w0, hw0⟩ : ∃ x : World, x = w.alloc (.cells #[.int .i64 s.lea, .int .i64 s.tin, .int .i64 s.ant] 32) := ⟨_, rfl⟩
  have HX : Hid (MeAt w0 w.heap.size 32 s) := Lib.hid (by rw [hw0]; exact MeAt.new _ _ _)
  have HA : Hid (Below w.heap.size w w0) := Lib.hid (by rw [hw0]; exact (Below.refl _ _).alloc (Nat.le_refl _) _)
  have HW := Lib.hid hw0; clear hw0
  have s0 := numB_size b0; have s1 := numB_size b1; have s2 := numB_size b2
  have HD : Hid (txtM s = numB s.lea ++ ⟨#[45]⟩ ++ numB s.tin ++ ⟨#[45]⟩ ++ numB s.ant) := Lib.hid rfl
  have HN0 : Hid (∃ D, D = numB s.lea) := Lib.hid ⟨_, rfl⟩
  have HN1 : Hid (∃ D, D = numB s.tin) := Lib.hid ⟨_, rfl⟩
  have HN2 : Hid (∃ D, D = numB s.ant) := Lib.hid ⟨_, rfl⟩
  obtain ⟨A, hA⟩ := HN0.out; obtain ⟨B, hB⟩ := HN1.out; obtain ⟨C, hC⟩ := HN2.out
  clear HN0 HN1 HN2
  rw [← hA] at s0; rw [← hB] at s1; rw [← hC] at s2
  rw [← hA, ← hB, ← hC] at HD
  have C0 := Lib.hid (fun W => num_any s.lea A W b0 hA.symm)
  have C1 := Lib.hid (fun W => num_any s.tin B W b1 hB.symm)
  have C2 := Lib.hid (fun W => num_any s.ant C W b2 hC.symm)
  clear hA hB hC b0 b1 b2 hg
  go_enter Tryd.func59, Tryd.ntmps59
  obtain ⟨x0, x1, x2⟩ := HX.out.kept (B := w0.heap.size) HX.out.lt
  go_wp2_with fail
  rw [← HW.out]
  refine region_kept w0.heap.size (by kernel_rfl) (by kernel_rfl) ?_
  repeat (go_big_quiet_step (fail))
  go_big_quiet_step ((go_at_call 81; exact kept_call _ (Nat.le_refl _) (C0.out _)))
  repeat (go_big_quiet_step (fail))
  go_big_quiet_step ((go_at_call 81; exact kept_call _ (Nat.le_refl _) (C1.out _)))
  repeat (go_big_quiet_step (fail))
  go_big_quiet_step ((go_at_call 81; exact kept_call _ (Nat.le_refl _) (C2.out _)))
  repeat (go_big_quiet_step (fail))
  refine wpQuiet_nil ?_
  intro w2 hb2
  have HB2 : Hid (Below w.heap.size w w2) := Lib.hid (HA.out.trans (hb2.mono HA.out.size))
  clear hb2 x0 x1 x2
  go_wp2
  go_ret
  exact ⟨by rw [HD.out]; rfl, HB2.out⟩

theorem specText_any (s : Me) (w : World) :
    Calls Tryd.prog 30 #[.agg #[.int .i64 s.lea, .int .i64 s.tin, .int .i64 s.ant]] w fun e w' => e = .returned (.tuple #[.string (mtxV s), .bool (goodM s)]) ∧ Below w.heap.size w w' := by
  have HX := Lib.hid (MeAt.new w 32 s)
  have HA : Hid (Below w.heap.size w (w.alloc (.cells #[.int .i64 s.lea, .int .i64 s.tin, .int .i64 s.ant] 32))) := Lib.hid ((Below.refl _ _).alloc (Nat.le_refl _) _)
  go_enter Tryd.func30, Tryd.ntmps30
  go_wp2_with fail
  refine (meGood_any s _).mono ?_
  rintro e w1 ⟨rfl, hb1⟩
  have HB1 : Hid (Below w.heap.size w w1) := Lib.hid (HA.out.trans (hb1.mono HA.out.size))
  have HX1 := Lib.hid (HX.out.next hb1)
  clear hb1 HX HA
  cases hg : goodM s
  · have HV := Lib.hid (mtx_no hg)
    have HG := Lib.hid hg; clear hg
    go_wp2
    go_ret2
    exact ⟨ret_strb HV.out.symm HG.out.symm, HB1.out⟩
  have HV := Lib.hid (mtx_yes hg)
  have HG := Lib.hid hg
  clear hg
  obtain ⟨x0, x1, x2⟩ := HX1.out.cells
  have xl := HX1.out.lt
  go_wp2_with fail
  refine (meText_any s _ HG.out).mono ?_
  rintro e w2 ⟨rfl, hb2⟩
  have HB2 : Hid (Below w.heap.size w w2) := Lib.hid (HB1.out.trans (hb2.mono HB1.out.size))
  clear hb2 x0 x1 x2 xl
  generalize txtM s = z at *
  go_wp2
  go_ret2
  exact ⟨ret_strb HV.out.symm HG.out.symm, HB2.out⟩

/-- The first k numbers are written. -/
def txK (m : Me) (k : Nat) : List Value := [.string (if 0 < k then numB m.lea else ⟨#[]⟩), .string (if 1 < k then numB m.tin else ⟨#[]⟩), .string (if 2 < k then numB m.ant else ⟨#[]⟩)]
theorem txK_at (m : Me) {k : Nat} (h : k < 3) : ∃ v, (txK m k)[k]? = some v := by
  have hc : k = 0 ∨ k = 1 ∨ k = 2 := by omega
  rcases hc with rfl | rfl | rfl <;> exact ⟨_, rfl⟩
theorem txK_succ (m : Me) {k : Nat} (h : k < 3) : (txK m k).set k (.string (numB (m.zs.getD k 0))) = txK m (k + 1) := by
  have hc : k = 0 ∨ k = 1 ∨ k = 2 := by omega
  rcases hc with rfl | rfl | rfl <;> rfl
theorem tx_join (m : Me) : (⟨(Lib.join ([numB m.lea, numB m.tin, numB m.ant].map (·.data.toList)) [45]).toArray⟩ : ByteArray) = txtM m := by
  apply ByteArray.ext
  unfold txtM sepM
  simp [Lib.join, List.intercalate]
theorem tx_small {m : Me} (h : goodM m = true) : (Lib.join ([numB m.lea, numB m.tin, numB m.ant].map (·.data.toList)) [45]).length ≤ 140737488355328 := by
  obtain ⟨b0, b1, b2⟩ := goodM_bounds h
  have s0 := numB_size b0; have s1 := numB_size b1; have s2 := numB_size b2
  have e := congrArg ByteArray.size (tx_join m)
  unfold txtM at e
  simp only [ByteArray.size_append, sepM_size] at e
  have e2 : ∀ l : List UInt8, (⟨l.toArray⟩ : ByteArray).size = l.length := fun l => rfl
  rw [e2] at e
  omega

theorem itoa_any (z : Int) (W : World) (h : 0 ≤ z ∧ z ≤ 1000000) (ht : Tab W) : Calls Tryd.prog 60 #[.int .i64 z] W fun e w' => e = .returned (.string (numB z)) ∧ Below W.heap.size W w' := by
  refine (Tryd.strconv_Itoa z (by omega) (by omega) W ht).mono ?_
  rintro e w' ⟨rfl, q, os, rfl⟩
  exact ⟨by rw [← numB_itoa h.1]; rfl, Lib.below_grow _ _ (Nat.le_refl _) _ _⟩
theorem joinM_any (s : Me) (g : Nat) (t : TypeId) (W : World) (hg : goodM s = true) (h : Own W g t (txK s 3)) : Calls Tryd.prog 61 #[.slice (some ⟨g, 0, none⟩) 3 3, .string ⟨#[45]⟩] W fun e w' => e = .returned (.string (txtM s)) ∧ Below W.heap.size W w' := by
  have := Tryd.strings_Join g 0 3 [numB s.lea, numB s.tin, numB s.ant] ⟨#[45]⟩ W (by
    intro j x hx
    have hj : j = 0 ∨ j = 1 ∨ j = 2 ∨ 3 ≤ j := by omega
    rw [Nat.zero_add, h.cell]
    rcases hj with rfl | rfl | rfl | hj
    · cases hx; rfl
    · cases hx; rfl
    · cases hx; rfl
    · rw [List.getElem?_eq_none (by simpa using hj)] at hx; cases hx) h.lt (by simp) (by simp) (tx_small hg)
  refine this.mono ?_
  rintro e w' ⟨rfl, hb⟩
  exact ⟨by rw [← tx_join s], hb⟩
theorem Own.put' {w : World} {b : Nat} {t : TypeId} {cs : List Value} (h : Own w b t cs) (i : Nat) (v : Value) : Own (w.setCell ⟨b, i, none⟩ v) b t (cs.set i v) := own_put h i v
set_option maxRecDepth 100000 in
set_option maxHeartbeats 1000000 in
theorem implText_any (s : Me) (w : World) (ht : Tab w) :
    Calls Tryd.prog 31 #[.agg #[.int .i64 s.lea, .int .i64 s.tin, .int .i64 s.ant]] w fun e w' => e = .returned (.tuple #[.string (mtxV s), .bool (goodM s)]) ∧ Below w.heap.size w w' := by
  have HT := Lib.hid ht; clear ht
  have HX := Lib.hid (MeAt.new w 32 s)
  have HA : Hid (Below w.heap.size w (w.alloc (.cells #[.int .i64 s.lea, .int .i64 s.tin, .int .i64 s.ant] 32))) := Lib.hid ((Below.refl _ _).alloc (Nat.le_refl _) _)
  go_enter Tryd.func31, Tryd.ntmps31
  go_wp2_with fail
  refine (implIsMelt_any s _).mono ?_
  rintro e w1 ⟨rfl, hb1⟩
  have HB1 : Hid (Below w.heap.size w w1) := Lib.hid (HA.out.trans (hb1.mono HA.out.size))
  have HX1 := Lib.hid (HX.out.next hb1)
  clear hb1 HX HA
  cases hg : goodM s
  · have HV := Lib.hid (mtx_no hg)
    have HG := Lib.hid hg; clear hg
    go_wp2
    go_ret2
    exact ⟨ret_strb HV.out.symm HG.out.symm, HB1.out⟩
  have HV := Lib.hid (mtx_yes hg)
  have HG := Lib.hid hg
  clear hg
  obtain ⟨x0, x1, x2⟩ := HX1.out.cells
  have xl := HX1.out.lt
  obtain ⟨w2, hw2⟩ : ∃ x : World, x = w1.alloc (.cells #[.string ⟨#[]⟩, .string ⟨#[]⟩, .string ⟨#[]⟩] 77) := ⟨_, rfl⟩
  obtain ⟨g, hgg⟩ : ∃ g, g = w1.heap.size := ⟨_, rfl⟩
  have hb2 : Below w1.heap.size w1 w2 := by rw [hw2]; exact (Below.refl _ _).alloc (Nat.le_refl _) _
  have HO2 : Hid (Own w2 g 77 (txK s 0)) := Lib.hid (show Own _ _ _ _ by rw [hw2, hgg]; exact heap_new _ _)
  have HB2 : Hid (Below w.heap.size w w2) := Lib.hid (HB1.out.trans (hb2.mono HB1.out.size))
  have hgw : w.heap.size ≤ g := by rw [hgg]; exact HB1.out.size
  have HGW := Lib.hid hgw
  have HW2 := Lib.hid hw2; have HGG := Lib.hid hgg
  clear hb2 hw2 hgg HX1 HB1 hgw
  go_wp2_with fail
  rw [← HW2.out, ← HGG.out]
  refine (gramsBy_any s _).mono ?_
  rintro e w3 ⟨rfl, hb3⟩
  have HB3 : Hid (Below w.heap.size w w3) := Lib.hid (HB2.out.trans (hb3.mono HB2.out.size))
  have HO3 := Lib.hid (HO2.out.below hb3 HO2.out.lt)
  clear hb3 x0 x1 x2 xl HO2 HB2 HW2 HGG
  go_wp2
  go_loopw [12] (fun i wr => ∃ k : Nat, k ≤ 3 ∧ i = .int .i64 k ∧ Own wr g 77 (txK s k) ∧ Below w.heap.size w wr) (fun i _ => 3 - (intOf i).toNat)
  case atStart => exact ⟨0, Nat.zero_le _, rfl, HO3.out, HB3.out⟩
  case round =>
    obtain ⟨k, hk, rfl, ho, hb⟩ := hrel
    have HO := Lib.hid ho; have HB := Lib.hid hb
    clear ho hb HO3 HB3
    by_cases hlt : k < 3
    · have hix := run_index3 s k hlt
      have bz := zs_good HG.out k hlt
      have e1 := zs_getD s (k := k) hlt
      rw [e1] at hix
      have HST := Lib.hid (txK_succ s hlt)
      clear e1
      generalize s.zs.getD k 0 = x at *
      have HBZ := Lib.hid bz; clear bz
      go_wp2_with fail
      refine (itoa_any x _ HBZ.out (HT.out.below HB.out)).mono ?_
      rintro e w4 ⟨rfl, hb4⟩
      have HB4 : Hid (Below w.heap.size w w4) := Lib.hid (HB.out.trans (hb4.mono HB.out.size))
      have HO4 := Lib.hid (HO.out.below hb4 HO.out.lt)
      clear hb4 HO HB hix
      obtain ⟨v0, hv0⟩ := txK_at s hlt
      have hc0 : w4.cell? ⟨g, k, none⟩ = some v0 := by rw [HO4.out.cell]; exact hv0
      have hf0 : w4.frozen? ⟨g, k, none⟩ = false := free_of_heap HO4.out k
      have hgl := HO4.out.lt
      have HO' : Hid (Own (w4.setCell ⟨g, k, none⟩ (.string (numB x))) g 77 (txK s (k + 1))) := Lib.hid (by
        rw [← HST.out]; exact own_put HO4.out _ _)
      have HB' : Hid (Below w.heap.size w (w4.setCell ⟨g, k, none⟩ (.string (numB x)))) := Lib.hid (HB4.out.setCell (p := ⟨g, k, none⟩) HGW.out _)
      clear hv0
      generalize numB x = D at *
      go_wp2
      go_roundw
      case rel => exact ⟨k + 1, by omega, by go_num, HO'.out, HB'.out⟩
      case measure => simp [intOf]; omega
    · obtain rfl : k = 3 := by omega
      have hgl := HO.out.lt
      go_wp2_with fail
      refine (joinM_any s g _ _ HG.out HO.out).mono ?_
      rintro e w5 ⟨rfl, hb5⟩
      have HB5 : Hid (Below w.heap.size w w5) := Lib.hid (HB.out.trans (hb5.mono HB.out.size))
      clear hb5 hgl
      generalize txtM s = z at *
      go_wp2
      go_ret2
      exact ⟨ret_strb HV.out.symm HG.out.symm, HB5.out⟩
end Go.Proofs.YtebbgdihifihnaaDoor
