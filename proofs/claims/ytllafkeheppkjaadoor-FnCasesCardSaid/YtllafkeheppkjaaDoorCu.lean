/-
  The contract of impl.CaseText, given the library's table of powers.
-/
import Derived.Test.YtllafkeheppkjaaDoorCt
namespace Go.Proofs.YtllafkeheppkjaaDoor.P
open Go.RowKit Go.Proofs.YtllafkeheppkjaaDoor.B
set_option linter.unusedVariables false

theorem itoa_is5 (z : Int) (D : ByteArray) (W : World) (h1 : 0 ≤ z) (h2 : z ≤ 100000) (hD : Hid (baOf (numL z) = D)) (ht : Tab W) : Calls Tryd.prog 35 #[.int .i64 z] W fun e w' => e = .returned (.string D) ∧ Below W.heap.size W w' := by
  refine (Tryd.strconv_Itoa z (by omega) (by omega) W ht).mono ?_
  rintro e w' ⟨rfl, q, os, rfl⟩
  refine ⟨?_, Lib.below_grow _ _ (Nat.le_refl _) _ _⟩
  rw [← hD.out]
  obtain ⟨n, hn⟩ := Int.eq_ofNat_of_zero_le (show 0 ≤ z by omega)
  rw [hn, Lib.itoa_nonneg]; rfl
theorem ctext_step {l : List Bx} {k : Nat} (h : k < l.length) : Lib.byteCells (caK l (k + 1)) = Lib.byteCells (caK l k) ++ Lib.strCells l[k].cod ++ [Value.int .u8 64] ++ Lib.strCells (baOf (numL l[k].row)) ++ [Value.int .u8 46] ++ Lib.strCells (baOf (numL l[k].col)) ++ [Value.int .u8 120] ++ Lib.strCells (baOf (numL l[k].cnt)) ++ [Value.int .u8 59] := by
  rw [caK_step h]
  unfold oneT
  simp only [Lib.byteCells_append, Lib.strCells_eq, List.append_assoc]; rfl

set_option maxRecDepth 100000 in
set_option maxHeartbeats 4000000 in
theorem implCaseText_any (l : List Bx) (A : Option Addr) (c : Nat) (w : World) (hf : BxsIn w A l) (hn : l.length ≤ 1048576) (ho : BxsOk l) (hcap : l.length ≤ c) (ht : Tab w) :
    Calls Tryd.prog 8 #[.slice A l.length c] w fun e w' => e = .returned (.tuple #[.string (ctextB l), .bool (caseB l)]) ∧ Below w.heap.size w w' := by
  have HF := Lib.hid hf; have HO := Lib.hid ho; have HT := Lib.hid ht; clear hf ho ht
  cases hg : caseB l
  · have HV := Lib.hid (ct_no hg)
    have HG := Lib.hid hg; clear hg
    go_enter Tryd.func8, Tryd.ntmps8
    go_wp2_with fail
    refine (implIsCase_is l _ A c _ HF.out hn HO.out HG).mono ?_
    rintro e w1 ⟨rfl, hb1⟩
    go_wp2
    go_ret2
    exact ⟨ret_sb HV.out.symm rfl, hb1⟩
  have HV := Lib.hid (ct_yes hg)
  have HC := Lib.hid (caseB_iff.1 hg)
  have h32 := HC.out.2.2
  have HG := Lib.hid hg; clear hg
  go_enter Tryd.func8, Tryd.ntmps8
  go_wp2_with fail
  refine (implIsCase_is l _ A c _ HF.out hn HO.out HG).mono ?_
  rintro e w1 ⟨rfl, hb1⟩
  have HA1 := Lib.hid hb1; clear hb1
  obtain ⟨w3, hw3⟩ : ∃ x : World, x = w1.alloc (.cells #[.pointer none, .slice none 0 0] 56) := ⟨_, rfl⟩
  have HN3 : Hid (Bld w1.heap.size w1.heap.size (Lib.byteCells (caK l 0)) w3) := by show Bld _ _ _ _; rw [hw3]; exact bld_new w1
  have HB3 : Hid (Below w1.heap.size w1 w3) := by show Below _ _ _; rw [hw3]; exact (Below.refl _ _).alloc (Nat.le_refl _) _
  have HW3 := Lib.hid hw3; clear hw3
  have HF1 := Lib.hid (HF.out.below HA1.out (Nat.le_refl _))
  have HTW : Hid (∀ W, Below w1.heap.size w1 W → Tab W) := Lib.hid (fun W hW => (HT.out.below HA1.out).below hW)
  go_wp2
  rw [← HW3.out]
  go_loopw [12] (fun i wr => ∃ k : Nat, k ≤ l.length ∧ i = .int .i64 k ∧ Bld w1.heap.size w1.heap.size (Lib.byteCells (caK l k)) wr ∧ Below w1.heap.size w1 wr) (fun i _ => l.length - (intOf i).toNat)
  case atStart => exact ⟨0, Nat.zero_le _, rfl, HN3.out, HB3.out⟩
  case round =>
    obtain ⟨k, hk, rfl, hbd, hb⟩ := hrel
    have HBD := Lib.hid hbd; clear hbd
    by_cases hlt : k < l.length
    · obtain ⟨b, off, rfl, hbl, hc⟩ := HF1.out (by omega)
      obtain ⟨hc0, hc1, hc2, hc3⟩ := hc k hlt
      clear hc
      rw [← hb.cell (p := ⟨b, off + k * 4, none⟩) hbl] at hc0
      rw [← hb.cell (p := ⟨b, off + k * 4 + 1, none⟩) hbl] at hc1
      rw [← hb.cell (p := ⟨b, off + k * 4 + 2, none⟩) hbl] at hc2
      rw [← hb.cell (p := ⟨b, off + k * 4 + 3, none⟩) hbl] at hc3
      have hsz := hb.size
      have hlb : w1.heap.size < wr.heap.size := by rcases HBD.out with h | h <;> exact Lib.BuilderAt.lt h
      have HB := Lib.hid hb; clear hb
      obtain ⟨⟨r1, r2⟩, ⟨r3, r4⟩, r5, r6⟩ := HC.out.range hlt
      have z0 := cod_small (HC.out.box hlt)
      have HY := Lib.hid (ctext_step hlt)
      have n1 : (baOf (numL l[k].row)).size ≤ 100001 := numL_len (by omega)
      have n2 : (baOf (numL l[k].col)).size ≤ 100001 := numL_len (by omega)
      have n3 : (baOf (numL l[k].cnt)).size ≤ 100001 := numL_len (by omega)
      have htl : (Lib.byteCells (caK l k)).length ≤ 9700000 := by have := caK_len HC.out k hk; rw [Lib.byteCells_length]; omega
      obtain ⟨D1, hD1⟩ : ∃ D, baOf (numL l[k].row) = D := ⟨_, rfl⟩
      obtain ⟨D2, hD2⟩ : ∃ D, baOf (numL l[k].col) = D := ⟨_, rfl⟩
      obtain ⟨D3, hD3⟩ : ∃ D, baOf (numL l[k].cnt) = D := ⟨_, rfl⟩
      rw [hD1] at n1 HY
      rw [hD2] at n2 HY
      rw [hD3] at n3 HY
      have HD1 := Lib.hid hD1; have HD2 := Lib.hid hD2; have HD3 := Lib.hid hD3; clear hD1 hD2 hD3
      generalize l[k].cod = s at *
      generalize l[k].row = y1 at *
      generalize l[k].col = y2 at *
      generalize l[k].cnt = y3 at *
      generalize Lib.byteCells (caK l k) = T at *
      obtain ⟨W0, hW0⟩ : ∃ W0 : World, W0 = wr.alloc (.cells #[.string s, .int .i64 y1, .int .i64 y2, .int .i64 y3] 40) := ⟨_, rfl⟩
      have HX0 : Hid (W0.heap[wr.heap.size]? = some (.cells #[.string s, .int .i64 y1, .int .i64 y2, .int .i64 y3] 40 (0, 0))) := Lib.hid (by rw [hW0]; exact heap_new _ _)
      have HB0 : Hid (Below w1.heap.size w1 W0) := by show Below _ _ _; rw [hW0]; exact HB.out.alloc hsz _
      have HN0 : Hid (Bld w1.heap.size w1.heap.size T W0) := by show Bld _ _ _ _; rw [hW0]; exact Bld.below HBD.out ((Below.refl _ _).alloc (Nat.le_refl _) _)
      have hq : W0.cell? ⟨wr.heap.size, 0, none⟩ = some (.string s) := by rw [Lib.cell_of_heap HX0.out]; rfl
      have HW0 := Lib.hid hW0; clear hW0 HBD HB
      go_wp2_with fail
      rw [← HW0.out]
      clear hc0 hc1 hc2 hc3 HW0
      refine (writeString_more w1.heap.size w1.heap.size T s _ HN0.out (by omega) HB0.out.size).mono ?_
      rintro e W1 ⟨rfl, hn, hb, ho⟩
      have HX1 := Lib.hid (ho _ _ HX0.out (by intro h; have h := Option.some.inj h; omega) (by intro c fz h; cases h))
      have HB1 := Lib.hid (HB0.out.trans hb)
      have HN1 : Hid (Bld w1.heap.size w1.heap.size (T ++ Lib.strCells s) W1) := Lib.hid (Or.inr hn)
      clear hn hb ho HX0 HB0 HN0 hq
      have hl1 : (T ++ Lib.strCells s).length ≤ 9800010 := by rw [List.length_append]; first | (rw [Lib.strCells_length]; omega) | (simp only [List.length_cons, List.length_nil]; omega)
      generalize T ++ Lib.strCells s = T1 at *
      go_wp2_with fail
      refine (writeByte_more w1.heap.size w1.heap.size T1 64 _ HN1.out (by omega) HB1.out.size).mono ?_
      rintro e W2 ⟨rfl, hn, hb, ho⟩
      have HX2 := Lib.hid (ho _ _ HX1.out (by intro h; have h := Option.some.inj h; omega) (by intro c fz h; cases h))
      have HB2 := Lib.hid (HB1.out.trans hb)
      have HN2 : Hid (Bld w1.heap.size w1.heap.size (T1 ++ [Value.int .u8 64]) W2) := Lib.hid (Or.inr hn)
      clear hn hb ho HX1 HB1 HN1
      have hl2 : (T1 ++ [Value.int .u8 64]).length ≤ 9900020 := by rw [List.length_append]; first | (rw [Lib.strCells_length]; omega) | (simp only [List.length_cons, List.length_nil]; omega)
      generalize T1 ++ [Value.int .u8 64] = T2 at *
      have hq : W2.cell? ⟨wr.heap.size, 1, none⟩ = some (.int .i64 y1) := by rw [Lib.cell_of_heap HX2.out]; rfl
      go_wp2_with fail
      refine (itoa_is5 y1 D1 _ r1 (by omega) HD1 (HTW.out _ HB2.out)).mono ?_
      rintro e W3 ⟨rfl, hb⟩
      have HX3 := Lib.hid ((hb.block _ (lt_of_heap HX2.out)).trans HX2.out)
      have HB3 := Lib.hid (HB2.out.trans (hb.mono HB2.out.size))
      have HN3 : Hid (Bld w1.heap.size w1.heap.size T2 W3) := Lib.hid (Bld.below HN2.out hb)
      clear hb HX2 HB2 HN2 hq
      go_wp2_with fail
      refine (writeString_more w1.heap.size w1.heap.size T2 D1 _ HN3.out (by omega) HB3.out.size).mono ?_
      rintro e W4 ⟨rfl, hn, hb, ho⟩
      have HX4 := Lib.hid (ho _ _ HX3.out (by intro h; have h := Option.some.inj h; omega) (by intro c fz h; cases h))
      have HB4 := Lib.hid (HB3.out.trans hb)
      have HN4 : Hid (Bld w1.heap.size w1.heap.size (T2 ++ Lib.strCells D1) W4) := Lib.hid (Or.inr hn)
      clear hn hb ho HX3 HB3 HN3
      have hl4 : (T2 ++ Lib.strCells D1).length ≤ 10000030 := by rw [List.length_append]; first | (rw [Lib.strCells_length]; omega) | (simp only [List.length_cons, List.length_nil]; omega)
      generalize T2 ++ Lib.strCells D1 = T4 at *
      go_wp2_with fail
      refine (writeByte_more w1.heap.size w1.heap.size T4 46 _ HN4.out (by omega) HB4.out.size).mono ?_
      rintro e W5 ⟨rfl, hn, hb, ho⟩
      have HX5 := Lib.hid (ho _ _ HX4.out (by intro h; have h := Option.some.inj h; omega) (by intro c fz h; cases h))
      have HB5 := Lib.hid (HB4.out.trans hb)
      have HN5 : Hid (Bld w1.heap.size w1.heap.size (T4 ++ [Value.int .u8 46]) W5) := Lib.hid (Or.inr hn)
      clear hn hb ho HX4 HB4 HN4
      have hl5 : (T4 ++ [Value.int .u8 46]).length ≤ 10100040 := by rw [List.length_append]; first | (rw [Lib.strCells_length]; omega) | (simp only [List.length_cons, List.length_nil]; omega)
      generalize T4 ++ [Value.int .u8 46] = T5 at *
      have hq : W5.cell? ⟨wr.heap.size, 2, none⟩ = some (.int .i64 y2) := by rw [Lib.cell_of_heap HX5.out]; rfl
      go_wp2_with fail
      refine (itoa_is5 y2 D2 _ r3 (by omega) HD2 (HTW.out _ HB5.out)).mono ?_
      rintro e W6 ⟨rfl, hb⟩
      have HX6 := Lib.hid ((hb.block _ (lt_of_heap HX5.out)).trans HX5.out)
      have HB6 := Lib.hid (HB5.out.trans (hb.mono HB5.out.size))
      have HN6 : Hid (Bld w1.heap.size w1.heap.size T5 W6) := Lib.hid (Bld.below HN5.out hb)
      clear hb HX5 HB5 HN5 hq
      go_wp2_with fail
      refine (writeString_more w1.heap.size w1.heap.size T5 D2 _ HN6.out (by omega) HB6.out.size).mono ?_
      rintro e W7 ⟨rfl, hn, hb, ho⟩
      have HX7 := Lib.hid (ho _ _ HX6.out (by intro h; have h := Option.some.inj h; omega) (by intro c fz h; cases h))
      have HB7 := Lib.hid (HB6.out.trans hb)
      have HN7 : Hid (Bld w1.heap.size w1.heap.size (T5 ++ Lib.strCells D2) W7) := Lib.hid (Or.inr hn)
      clear hn hb ho HX6 HB6 HN6
      have hl7 : (T5 ++ Lib.strCells D2).length ≤ 10200050 := by rw [List.length_append]; first | (rw [Lib.strCells_length]; omega) | (simp only [List.length_cons, List.length_nil]; omega)
      generalize T5 ++ Lib.strCells D2 = T7 at *
      go_wp2_with fail
      refine (writeByte_more w1.heap.size w1.heap.size T7 120 _ HN7.out (by omega) HB7.out.size).mono ?_
      rintro e W8 ⟨rfl, hn, hb, ho⟩
      have HX8 := Lib.hid (ho _ _ HX7.out (by intro h; have h := Option.some.inj h; omega) (by intro c fz h; cases h))
      have HB8 := Lib.hid (HB7.out.trans hb)
      have HN8 : Hid (Bld w1.heap.size w1.heap.size (T7 ++ [Value.int .u8 120]) W8) := Lib.hid (Or.inr hn)
      clear hn hb ho HX7 HB7 HN7
      have hl8 : (T7 ++ [Value.int .u8 120]).length ≤ 10300060 := by rw [List.length_append]; first | (rw [Lib.strCells_length]; omega) | (simp only [List.length_cons, List.length_nil]; omega)
      generalize T7 ++ [Value.int .u8 120] = T8 at *
      have hq : W8.cell? ⟨wr.heap.size, 3, none⟩ = some (.int .i64 y3) := by rw [Lib.cell_of_heap HX8.out]; rfl
      go_wp2_with fail
      refine (itoa_is5 y3 D3 _ r5 (by omega) HD3 (HTW.out _ HB8.out)).mono ?_
      rintro e W9 ⟨rfl, hb⟩
      have HX9 := Lib.hid ((hb.block _ (lt_of_heap HX8.out)).trans HX8.out)
      have HB9 := Lib.hid (HB8.out.trans (hb.mono HB8.out.size))
      have HN9 : Hid (Bld w1.heap.size w1.heap.size T8 W9) := Lib.hid (Bld.below HN8.out hb)
      clear hb HX8 HB8 HN8 hq
      go_wp2_with fail
      refine (writeString_more w1.heap.size w1.heap.size T8 D3 _ HN9.out (by omega) HB9.out.size).mono ?_
      rintro e W10 ⟨rfl, hn, hb, ho⟩
      have HX10 := Lib.hid (ho _ _ HX9.out (by intro h; have h := Option.some.inj h; omega) (by intro c fz h; cases h))
      have HB10 := Lib.hid (HB9.out.trans hb)
      have HN10 : Hid (Bld w1.heap.size w1.heap.size (T8 ++ Lib.strCells D3) W10) := Lib.hid (Or.inr hn)
      clear hn hb ho HX9 HB9 HN9
      have hl10 : (T8 ++ Lib.strCells D3).length ≤ 10400070 := by rw [List.length_append]; first | (rw [Lib.strCells_length]; omega) | (simp only [List.length_cons, List.length_nil]; omega)
      generalize T8 ++ Lib.strCells D3 = T10 at *
      go_wp2_with fail
      refine (writeByte_more w1.heap.size w1.heap.size T10 59 _ HN10.out (by omega) HB10.out.size).mono ?_
      rintro e W ⟨rfl, hn, hb, _⟩
      have HBF := Lib.hid (HB10.out.trans hb)
      have HNF : Hid (Bld w1.heap.size w1.heap.size (Lib.byteCells (caK l (k + 1))) W) := by show Bld _ _ _ _; rw [HY.out]; exact Or.inr hn
      clear hn hb
      go_wp2
      go_roundw
      case rel => exact ⟨k + 1, by omega, by go_num, HNF.out, HBF.out⟩
      case measure => simp [intOf]; omega
    · obtain rfl : k = l.length := by omega
      have HB := Lib.hid hb
      have hsz := hb.size
      clear hb
      go_wp2_with fail
      refine (Tryd.Builder_String_any w1.heap.size w1.heap.size _ _ HBD.out HB.out.size).mono ?_
      rintro e w7 ⟨rfl, hb7⟩
      have HB7 : Hid (Below w.heap.size w w7) := Lib.hid (HA1.out.trans ((HB.out.trans hb7).mono HA1.out.size))
      clear hb7
      go_wp2
      go_ret2
      exact ⟨ret_sb HV.out.symm rfl, HB7.out⟩
end Go.Proofs.YtllafkeheppkjaaDoor.P
