/-
  The contract of impl.StrikeText: it answers what the plain words of Txt say, given the library's table of powers, and changes nothing that was there.
-/
import Derived.Test.YtbbaphhkdhdelaaDoorTxt
import Derived.Lib.AppendIntMem
namespace Go.Proofs.YtbbaphhkdhdelaaDoor
open Go.RowKit
set_option linter.unusedVariables false

theorem Bld.below {B b : Nat} {bs : List Value} {w w' : World} (h : Bld B b bs w) (hb : Below w.heap.size w w') : Bld B b bs w' := by
  rcases h with h | h
  · left
    have hlt := Lib.BuilderAt.lt h
    obtain ⟨hB, v, hbk, hown, hne⟩ := h
    exact ⟨hB, v, (hb.block b hlt).trans hbk, hown.kept (row := none) ⟨hb.os, hb.tape, hb.output, hb.size, fun k hk _ => hb.block k hk⟩ (by cases v.ownBlock <;> simp), hne⟩
  · right
    exact BldAt.below h hb

set_option maxRecDepth 100000 in
set_option maxHeartbeats 2000000 in
theorem implText_any (s : Sk) (w : World) (ht : Tab w) :
    Calls Tryd.prog 18 #[.agg #[.int .i64 s.dep, .int .i64 s.lef, .int .i64 s.fac, .int .i64 s.rig, .int .i64 s.foo]] w fun e w' => e = .returned (.tuple #[.string (textB s), .bool (goodB s)]) ∧ Below w.heap.size w w' := by
  have HT := Lib.hid ht; clear ht
  obtain ⟨w0, hw0⟩ : ∃ x : World, x = w.alloc (.cells #[.int .i64 s.dep, .int .i64 s.lef, .int .i64 s.fac, .int .i64 s.rig, .int .i64 s.foo] 37) := ⟨_, rfl⟩
  have HA : Hid (Below w.heap.size w w0) := by show Below _ _ _; rw [hw0]; exact (Below.refl _ _).alloc (Nat.le_refl _) _
  have HX : Hid (SkAt w0 w.heap.size 37 s) := by show SkAt _ _ _ _; rw [hw0]; exact SkAt.new _ _ _
  have HW := Lib.hid hw0; clear hw0
  go_enter Tryd.func18, Tryd.ntmps18
  go_wp2_with fail
  rw [← HW.out]
  refine (implIsStrike_any s _).mono ?_
  rintro e w1 ⟨rfl, hb1⟩
  have HA1 : Hid (Below w.heap.size w w1) := Lib.hid (HA.out.trans (hb1.mono HA.out.size))
  have HX1 := Lib.hid (HX.out.next hb1)
  clear hb1 HA HX HW
  cases hg : goodB s
  · have HV := Lib.hid (text_no hg)
    have HE := Lib.hid hg
    clear hg
    go_wp2
    go_ret2
    exact ⟨ret_sb HV.out.symm HE.out.symm, HA1.out⟩
  have HG := Lib.hid hg; clear hg
  obtain ⟨w2, hw2⟩ : ∃ x : World, x = w1.alloc (.cells #[.pointer none, .slice none 0 0] 53) := ⟨_, rfl⟩
  have HN1 := bld_new w1
  rw [← hw2] at HN1
  have HN := Lib.hid HN1
  have HX2 : Hid (SkAt w2 w.heap.size 37 s) := by show SkAt _ _ _ _; rw [hw2]; exact HX1.out.alloc _
  have HB2 : Hid (Below w1.heap.size w1 w2) := by show Below _ _ _; rw [hw2]; exact (Below.refl _ _).alloc (Nat.le_refl _) _
  have HW2 := Lib.hid hw2; clear hw2 HN1
  obtain ⟨y0, y1, y2, y3, y4⟩ := HX1.out.cells
  have hyl := HX1.out.lt
  go_wp2_with fail
  rw [← HW2.out]
  refine (numberParts_any s _).mono ?_
  rintro e w3 ⟨rfl, hb3⟩
  have HB3 : Hid (Below w1.heap.size w1 w3) := Lib.hid (HB2.out.trans (hb3.mono HB2.out.size))
  have HN3 : Hid (Bld w1.heap.size w1.heap.size [] w3) := Lib.hid (Bld.below HN.out hb3)
  clear hb3 y0 y1 y2 y3 y4 hyl
  clear HN HX2 HB2 HW2 HX1
  have hfl := run_field5 s
  go_wp2
  clear hfl
  go_loopw [13] (fun i wr => ∃ k : Nat, k ≤ 5 ∧ i = .int .i64 k ∧ Bld w1.heap.size w1.heap.size (Lib.byteCells (txtK s.zs k)) wr ∧ Below w1.heap.size w1 wr) (fun i _ => 5 - (intOf i).toNat)
  case atStart => exact ⟨0, Nat.zero_le _, rfl, HN3.out, HB3.out⟩
  case round =>
    obtain ⟨k, hk, rfl, hbd, hb⟩ := hrel
    have HBD := Lib.hid hbd; clear hbd
    have hsz := hb.size
    have HB := Lib.hid hb; clear hb
    by_cases hlt : k < 5
    · have hlz : k < s.zs.length := by rw [zs_len]; exact hlt
      have hix := run_index5 s k hlz
      obtain ⟨z1, z2⟩ := good_at HG.out hlz
      have htl : (Lib.byteCells (txtK s.zs k)).length ≤ 5005 := by have := txtK_len HG.out k hk; rw [Lib.byteCells_length]; omega
      have HITOA : Hid (∀ W, Tab W → Calls Tryd.prog 28 #[.int .i64 s.zs[k]] W fun e w' => e = .returned (.string (baOf (numL s.zs[k]))) ∧ Below W.heap.size W w') := by
        intro W hW
        refine (Tryd.strconv_Itoa s.zs[k] (by omega) (by omega) W hW).mono ?_
        rintro e w' ⟨rfl, q, os, rfl⟩
        refine ⟨?_, Lib.below_grow _ _ (Nat.le_refl _) _ _⟩
        obtain ⟨n, hn⟩ := Int.eq_ofNat_of_zero_le (show 0 ≤ s.zs[k] by omega)
        rw [hn, Lib.itoa_nonneg]; rfl
      have hnl : (baOf (numL s.zs[k])).size ≤ 1000 := numL_len z2
      have HONE : Hid (k = 0 → Lib.byteCells (txtK s.zs (k + 1)) = Lib.byteCells (txtK s.zs k) ++ Lib.strCells (baOf (numL s.zs[k]))) := by
        intro h; subst h; rw [txtK_one hlz, Lib.strCells_eq]; rfl
      have HMORE : Hid (k ≠ 0 → Lib.byteCells (txtK s.zs (k + 1)) = Lib.byteCells (txtK s.zs k) ++ [.int .u8 47] ++ Lib.strCells (baOf (numL s.zs[k]))) := by
        intro h; rw [txtK_more hlz h, Lib.byteCells_append, Lib.byteCells_append]; rfl
      have HTW : Hid (∀ W, Below w1.heap.size w1 W → Tab W) := Lib.hid (fun W hW => (HT.out.below HA1.out).below hW)
      generalize baOf (numL s.zs[k]) = D at *
      generalize s.zs[k] = z at *
      generalize Lib.byteCells (txtK s.zs k) = T at *
      rcases Nat.eq_zero_or_pos k with h0 | h0
      · have HY := Lib.hid (HONE.out h0)
        have H0 := Lib.hid h0
        clear h0
        have hgt : ¬ (0 : Int) < (k : Int) := by have := H0.out; omega
        go_wp2_with fail
        refine (HITOA.out _ (HTW.out _ HB.out)).mono ?_
        rintro e w4 ⟨rfl, hb4⟩
        have HB4 : Hid (Below w1.heap.size w1 w4) := Lib.hid (HB.out.trans (hb4.mono HB.out.size))
        have HN4 : Hid (Bld w1.heap.size w1.heap.size T w4) := Lib.hid (Bld.below HBD.out hb4)
        clear hb4
        go_wp2_with fail
        refine (writeString_any w1.heap.size w1.heap.size T D _ HN4.out (by omega) HB4.out.size).mono ?_
        rintro e w5 ⟨rfl, hn5, hb5⟩
        have HB5 : Hid (Below w1.heap.size w1 w5) := Lib.hid (HB4.out.trans hb5)
        have HN5 : Hid (Bld w1.heap.size w1.heap.size (Lib.byteCells (txtK s.zs (k + 1))) w5) := by show Bld _ _ _ _; rw [HY.out]; exact Or.inr hn5
        clear hb5 hn5
        go_wp2
        go_roundw
        case rel => exact ⟨k + 1, by omega, by go_num, HN5.out, HB5.out⟩
        case measure => simp [intOf]; omega
      · have HY := Lib.hid (HMORE.out (by omega))
        have hgt : (0 : Int) < (k : Int) := by omega
        go_wp2_with fail
        refine (writeByte_any w1.heap.size w1.heap.size T 47 _ HBD.out (by omega) HB.out.size).mono ?_
        rintro e w6 ⟨rfl, hn6, hb6⟩
        have HB6 : Hid (Below w1.heap.size w1 w6) := Lib.hid (HB.out.trans hb6)
        have HN6 := Lib.hid hn6
        clear hb6 hn6
        go_wp2_with fail
        refine (HITOA.out _ (HTW.out _ HB6.out)).mono ?_
        rintro e w4 ⟨rfl, hb4⟩
        have HB4 : Hid (Below w1.heap.size w1 w4) := Lib.hid (HB6.out.trans (hb4.mono HB6.out.size))
        have HN4 : Hid (Bld w1.heap.size w1.heap.size (T ++ [.int .u8 47]) w4) := Lib.hid (Or.inr (BldAt.below HN6.out hb4))
        clear hb4
        go_wp2_with fail
        refine (writeString_any w1.heap.size w1.heap.size (T ++ [.int .u8 47]) D _ HN4.out (by simp; omega) HB4.out.size).mono ?_
        rintro e w5 ⟨rfl, hn5, hb5⟩
        have HB5 : Hid (Below w1.heap.size w1 w5) := Lib.hid (HB4.out.trans hb5)
        have HN5 : Hid (Bld w1.heap.size w1.heap.size (Lib.byteCells (txtK s.zs (k + 1))) w5) := by show Bld _ _ _ _; rw [HY.out]; exact Or.inr hn5
        clear hb5 hn5
        go_wp2
        go_roundw
        case rel => exact ⟨k + 1, by omega, by go_num, HN5.out, HB5.out⟩
        case measure => simp [intOf]; omega
    · obtain rfl : k = 5 := by omega
      go_wp2_with fail
      refine (Tryd.Builder_String_any w1.heap.size w1.heap.size _ _ HBD.out HB.out.size).mono ?_
      rintro e w7 ⟨rfl, hb7⟩
      have HB7 : Hid (Below w.heap.size w w7) := Lib.hid (HA1.out.trans ((HB.out.trans hb7).mono HA1.out.size))
      clear hb7
      go_wp2
      go_ret2
      exact ⟨ret_sb (text_yes HG.out).symm HG.out.symm, HB7.out⟩
end Go.Proofs.YtbbaphhkdhdelaaDoor
