/-
  The contract of impl.StockText, given the library's table of powers.
-/
import Derived.Test.YtljakcfdjcjdbaaDoorTa
import Derived.Test.YtljakcfdjcjdbaaDoorBlk
import Derived.Test.YtljakcfdjcjdbaaDoorShx
import Derived.Lib.ItoaMem
import Derived.Lib.AppendIntMem
namespace Go.Proofs.YtljakcfdjcjdbaaDoor
open Go.RowKit
set_option linter.unusedVariables false

theorem itoa_isT (z : Int) (D : ByteArray) (W : World) (h1 : 0 ≤ z) (h2 : z ≤ 100000) (hD : Hid (baOf (numL z) = D)) (ht : Tab W) : Calls Tryd.prog 19 #[.int .i64 z] W fun e w' => e = .returned (.string D) ∧ Below W.heap.size W w' := by
  refine (Tryd.strconv_Itoa z (by omega) (by omega) W ht).mono ?_
  rintro e w' ⟨rfl, q, os, rfl⟩
  refine ⟨?_, Lib.below_grow _ _ (Nat.le_refl _) _ _⟩
  rw [← hD.out]
  obtain ⟨n, hn⟩ := Int.eq_ofNat_of_zero_le (show 0 ≤ z by omega)
  rw [hn, Lib.itoa_nonneg]; rfl
theorem tx_cells {l : List Sl} {k : Nat} (h : k < l.length) : Lib.byteCells (txK l (k + 1)) = Lib.byteCells (txK l k) ++ Lib.strCells (baOf (numL l[k].cnt)) ++ [Value.int .u8 120] ++ Lib.strCells (baOf (numL l[k].len)) ++ [Value.int .u8 32] := by
  rw [txK_step h]
  unfold oneT
  simp only [Lib.byteCells_append, Lib.strCells_eq, List.append_assoc]; rfl
set_option maxRecDepth 100000 in
set_option maxHeartbeats 4000000 in
theorem implStockText_any (l : List Sl) (A : Option Addr) (c : Nat) (w : World) (hf : SlsIn w A l) (hn : l.length ≤ 1048576) (ht : Tab w) :
    Calls Tryd.prog 8 #[.slice A l.length c] w fun e w' => e = .returned (.tuple #[.string (txB l), .bool (stkB l)]) ∧ Below w.heap.size w w' := by
  have HF := Lib.hid hf; have HT := Lib.hid ht; clear hf ht
  go_enter Tryd.func8, Tryd.ntmps8
  go_wp2_with fail
  refine (implIsStock_any l A c _ HF.out hn).mono ?_
  rintro e w1 ⟨rfl, hb1⟩
  have HA1 := Lib.hid hb1; clear hb1
  cases hg : stkB l
  · have HV := Lib.hid (tx_no hg)
    have HG := Lib.hid hg; clear hg
    go_wp2
    go_ret2
    exact ⟨ret_sb HV.out.symm HG.out.symm, HA1.out⟩
  have HV := Lib.hid (tx_yes hg)
  have HC := Lib.hid (stkB_iff.1 hg)
  have h8 := HC.out.eight
  have HG := Lib.hid hg; clear hg
  obtain ⟨w3, hw3⟩ : ∃ x : World, x = w1.alloc (.cells #[.pointer none, .slice none 0 0] 43) := ⟨_, rfl⟩
  have HN3 : Hid (Bld w1.heap.size w1.heap.size (Lib.byteCells (txK l 0)) w3) := by show Bld _ _ _ _; rw [hw3]; exact bld_new w1
  have HB3 : Hid (Below w1.heap.size w1 w3) := by show Below _ _ _; rw [hw3]; exact (Below.refl _ _).alloc (Nat.le_refl _) _
  have HW3 := Lib.hid hw3; clear hw3
  have HF1 := Lib.hid (HF.out.below HA1.out (Nat.le_refl _))
  have HTW : Hid (∀ W, Below w1.heap.size w1 W → Tab W) := Lib.hid (fun W hW => (HT.out.below HA1.out).below hW)
  go_wp2
  rw [← HW3.out]
  go_loopw [12] (fun i wr => ∃ k : Nat, k ≤ l.length ∧ i = .int .i64 k ∧ Bld w1.heap.size w1.heap.size (Lib.byteCells (txK l k)) wr ∧ Below w1.heap.size w1 wr) (fun i _ => l.length - (intOf i).toNat)
  case atStart => exact ⟨0, Nat.zero_le _, rfl, HN3.out, HB3.out⟩
  case round =>
    obtain ⟨k, hk, rfl, hbd, hb⟩ := hrel
    have HBD := Lib.hid hbd; clear hbd
    by_cases hlt : k < l.length
    · obtain ⟨b, off, rfl, hbl, hc⟩ := HF1.out (by omega)
      obtain ⟨hc0, hc1⟩ := hc k hlt
      clear hc
      rw [← hb.cell (p := ⟨b, off + k * 2, none⟩) hbl] at hc0
      rw [← hb.cell (p := ⟨b, off + k * 2 + 1, none⟩) hbl] at hc1
      have hsz := hb.size
      have hlb : w1.heap.size < wr.heap.size := by rcases HBD.out with h | h <;> exact Lib.BuilderAt.lt h
      have HB := Lib.hid hb; clear hb
      have hbd := HC.out.bd hlt
      have HY := Lib.hid (tx_cells hlt)
      have n1 : (baOf (numL l[k].cnt)).size ≤ 100001 := numL_len (by omega)
      have n2 : (baOf (numL l[k].len)).size ≤ 100001 := numL_len (by omega)
      have htl : (Lib.byteCells (txK l k)).length ≤ 9700000 := by have := txK_len HC.out k hk; rw [Lib.byteCells_length]; omega
      obtain ⟨D1, hD1⟩ : ∃ D, baOf (numL l[k].cnt) = D := ⟨_, rfl⟩
      obtain ⟨D2, hD2⟩ : ∃ D, baOf (numL l[k].len) = D := ⟨_, rfl⟩
      rw [hD1] at n1 HY
      rw [hD2] at n2 HY
      have HD1 := Lib.hid hD1; have HD2 := Lib.hid hD2; clear hD1 hD2
      generalize l[k].cnt = y1 at *
      generalize l[k].len = y2 at *
      generalize Lib.byteCells (txK l k) = T at *
      obtain ⟨W0, hW0⟩ : ∃ W0 : World, W0 = wr.alloc (.cells #[.int .i64 y2, .int .i64 y1] 37) := ⟨_, rfl⟩
      have HXW0 : Hid (W0.heap[wr.heap.size]? = some (.cells #[.int .i64 y2, .int .i64 y1] 37 (0, 0))) := Lib.hid (by rw [hW0]; exact heap_new _ _)
      have HBW0 : Hid (Below w1.heap.size w1 W0) := by show Below _ _ _; rw [hW0]; exact HB.out.alloc hsz _
      have HNW0 : Hid (Bld w1.heap.size w1.heap.size T W0) := by show Bld _ _ _ _; rw [hW0]; exact Bld.below HBD.out ((Below.refl _ _).alloc (Nat.le_refl _) _)
      have HW0 := Lib.hid hW0; clear hW0 HBD HB
      have hq : W0.cell? ⟨wr.heap.size, 1, none⟩ = some (.int .i64 y1) := by rw [Lib.cell_of_heap HXW0.out]; rfl
      go_wp2_with fail
      rw [← HW0.out]; clear hc0 hc1 HW0
      refine (itoa_isT y1 D1 _ (by omega) (by omega) HD1 (HTW.out _ HBW0.out)).mono ?_
      rintro e W1 ⟨rfl, hb⟩
      have HXW1 := Lib.hid ((hb.block _ (lt_of_heap HXW0.out)).trans HXW0.out)
      have HBW1 := Lib.hid (HBW0.out.trans (hb.mono HBW0.out.size))
      have HNW1 : Hid (Bld w1.heap.size w1.heap.size T W1) := Lib.hid (Bld.below HNW0.out hb)
      clear hb HXW0 HBW0 HNW0 hq
      go_wp2_with fail
      refine (writeString_more w1.heap.size w1.heap.size T D1 _ HNW1.out (by omega) HBW1.out.size).mono ?_
      rintro e W2 ⟨rfl, hn, hb, ho⟩
      have HXW2 := Lib.hid (ho _ _ HXW1.out (by intro h; have h := Option.some.inj h; omega) (by intro c fz h; cases h))
      have HBW2 := Lib.hid (HBW1.out.trans hb)
      have HNW2 : Hid (Bld w1.heap.size w1.heap.size (T ++ Lib.strCells D1) W2) := Lib.hid (Or.inr hn)
      clear hn hb ho HXW1 HBW1 HNW1
      have hl2 : (T ++ Lib.strCells D1).length ≤ 9900020 := by rw [List.length_append, Lib.strCells_length]; omega
      generalize T ++ Lib.strCells D1 = T2 at *
      go_wp2_with fail
      refine (writeByte_more w1.heap.size w1.heap.size T2 120 _ HNW2.out (by omega) HBW2.out.size).mono ?_
      rintro e W3 ⟨rfl, hn, hb, ho⟩
      have HXW3 := Lib.hid (ho _ _ HXW2.out (by intro h; have h := Option.some.inj h; omega) (by intro c fz h; cases h))
      have HBW3 := Lib.hid (HBW2.out.trans hb)
      have HNW3 : Hid (Bld w1.heap.size w1.heap.size (T2 ++ [Value.int .u8 120]) W3) := Lib.hid (Or.inr hn)
      clear hn hb ho HXW2 HBW2 HNW2
      have hl3 : (T2 ++ [Value.int .u8 120]).length ≤ 10000030 := by rw [List.length_append]; simp only [List.length_cons, List.length_nil]; omega
      generalize T2 ++ [Value.int .u8 120] = T3 at *
      have hq : W3.cell? ⟨wr.heap.size, 0, none⟩ = some (.int .i64 y2) := by rw [Lib.cell_of_heap HXW3.out]; rfl
      go_wp2_with fail
      skip
      refine (itoa_isT y2 D2 _ (by omega) (by omega) HD2 (HTW.out _ HBW3.out)).mono ?_
      rintro e W4 ⟨rfl, hb⟩
      have HXW4 := Lib.hid ((hb.block _ (lt_of_heap HXW3.out)).trans HXW3.out)
      have HBW4 := Lib.hid (HBW3.out.trans (hb.mono HBW3.out.size))
      have HNW4 : Hid (Bld w1.heap.size w1.heap.size T3 W4) := Lib.hid (Bld.below HNW3.out hb)
      clear hb HXW3 HBW3 HNW3 hq
      go_wp2_with fail
      refine (writeString_more w1.heap.size w1.heap.size T3 D2 _ HNW4.out (by omega) HBW4.out.size).mono ?_
      rintro e W5 ⟨rfl, hn, hb, ho⟩
      have HXW5 := Lib.hid (ho _ _ HXW4.out (by intro h; have h := Option.some.inj h; omega) (by intro c fz h; cases h))
      have HBW5 := Lib.hid (HBW4.out.trans hb)
      have HNW5 : Hid (Bld w1.heap.size w1.heap.size (T3 ++ Lib.strCells D2) W5) := Lib.hid (Or.inr hn)
      clear hn hb ho HXW4 HBW4 HNW4
      have hl5 : (T3 ++ Lib.strCells D2).length ≤ 10200050 := by rw [List.length_append, Lib.strCells_length]; omega
      generalize T3 ++ Lib.strCells D2 = T5 at *
      go_wp2_with fail
      refine (writeByte_more w1.heap.size w1.heap.size T5 32 _ HNW5.out (by omega) HBW5.out.size).mono ?_
      rintro e W ⟨rfl, hn, hb, _⟩
      have HBF := Lib.hid (HBW5.out.trans hb)
      have HNF : Hid (Bld w1.heap.size w1.heap.size (Lib.byteCells (txK l (k + 1))) W) := by show Bld _ _ _ _; rw [HY.out]; exact Or.inr hn
      clear hn hb
      go_wp2
      go_roundw
      case rel => exact ⟨k + 1, by omega, by go_num, HNF.out, HBF.out⟩
      case measure => simp [intOf]; omega
    · obtain rfl : k = l.length := by omega
      have HB := Lib.hid hb
      have hsz := hb.size
      clear hb
      go_wp2_with fail
      refine (Tryd.Builder_String_any w1.heap.size w1.heap.size _ _ HBD.out HB.out.size).mono ?_
      rintro e w7 ⟨rfl, hb7⟩
      have HB7 : Hid (Below w.heap.size w w7) := Lib.hid (HA1.out.trans ((HB.out.trans hb7).mono HA1.out.size))
      clear hb7
      go_wp2
      go_ret2
      exact ⟨ret_sb HV.out.symm HG.out.symm, HB7.out⟩
end Go.Proofs.YtljakcfdjcjdbaaDoor
