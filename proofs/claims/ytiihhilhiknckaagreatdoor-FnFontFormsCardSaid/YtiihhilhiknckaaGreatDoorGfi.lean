/-
  The contract of impl.FontText: it answers what the plain words of Ftx say, given the library's table of powers, and changes nothing that was there.
-/
import Derived.Test.YtiihhilhiknckaaGreatDoorGC
import Derived.Test.YtiihhilhiknckaaGreatDoorBlm
import Derived.Test.YtiihhilhiknckaaGreatDoorShb
import Derived.Test.YtiihhilhiknckaaGreatDoorShp
import Derived.Lib.ItoaMem
import Derived.Lib.AppendIntMem
namespace Go.Proofs.YtiihhilhiknckaaGreatDoor.P
open Go.RowKit Go.Proofs.YtiihhilhiknckaaGreatDoor.B
set_option linter.unusedVariables false

theorem ret_sb {a c : ByteArray} {b d : Bool} (h1 : a = c) (h2 : b = d) : Ending.returned (.tuple #[.string a, .bool b]) = .returned (.tuple #[.string c, .bool d]) := by rw [h1, h2]
theorem cells_step {f : List (ByteArray × Int)} {k : Nat} (h : k < f.length) : Lib.byteCells (ftK f (k + 1)) = Lib.byteCells (ftK f k) ++ Lib.strCells f[k].1 ++ Lib.strCells (baOf (numL f[k].2)) ++ [.int .u8 59] := by
  rw [ftK_step h, Lib.byteCells_append, Lib.byteCells_append, Lib.byteCells_append, Lib.strCells_eq, Lib.strCells_eq]
  rw [← List.append_assoc, ← List.append_assoc]; rfl
theorem itoa_is2 (z : Int) (D : ByteArray) (W : World) (h1 : 1 ≤ z) (h2 : z ≤ 1000) (hD : Hid (baOf (numL z) = D)) (ht : Tab W) : Calls Tryz.prog 34 #[.int .i64 z] W fun e w' => e = .returned (.string D) ∧ Below W.heap.size W w' := by
  refine (Tryz.strconv_Itoa z (by omega) (by omega) W ht).mono ?_
  rintro e w' ⟨rfl, q, os, rfl⟩
  refine ⟨?_, Lib.below_grow _ _ (Nat.le_refl _) _ _⟩
  rw [← hD.out]
  obtain ⟨n, hn⟩ := Int.eq_ofNat_of_zero_le (show 0 ≤ z by omega)
  rw [hn, Lib.itoa_nonneg]; rfl

set_option maxRecDepth 100000 in
set_option maxHeartbeats 2000000 in
theorem implFText_any (f : List (ByteArray × Int)) (A : Option Addr) (c : Nat) (lo : Nat) (w : World) (hf : SortsIn w lo A f) (hn : f.length ≤ 1048576) (ho : CodesOk f) (ht : Tab w) :
    Calls Tryz.prog 7 #[.slice A f.length c] w fun e w' => e = .returned (.tuple #[.string (ftextB f), .bool (fontB f)]) ∧ Below w.heap.size w w' := by
  have HF := Lib.hid hf; have HO := Lib.hid ho; have HT := Lib.hid ht; clear hf ho ht
  go_enter Tryz.func7, Tryz.ntmps7
  go_wp2_with fail
  refine (implIsFont_any f A c lo _ HF.out hn HO.out).mono ?_
  rintro e w1 ⟨rfl, hb1⟩
  have HA1 := Lib.hid hb1; clear hb1
  cases hg : fontB f
  · have HV := Lib.hid (ft_no hg)
    have HE := Lib.hid hg
    clear hg
    go_wp2
    go_ret2
    exact ⟨ret_sb HV.out.symm HE.out.symm, HA1.out⟩
  have HG := Lib.hid hg; clear hg
  have h32 := (fontB_iff.1 HG.out).2.2
  obtain ⟨w3, hw3⟩ : ∃ x : World, x = w1.alloc (.cells #[.pointer none, .slice none 0 0] 60) := ⟨_, rfl⟩
  have HN3 : Hid (Bld w1.heap.size w1.heap.size (Lib.byteCells (ftK f 0)) w3) := by show Bld _ _ _ _; rw [hw3]; exact bld_new w1
  have HB3 : Hid (Below w1.heap.size w1 w3) := by show Below _ _ _; rw [hw3]; exact (Below.refl _ _).alloc (Nat.le_refl _) _
  have HW3 := Lib.hid hw3; clear hw3
  have HF1 := Lib.hid (HF.out.below HA1.out (Nat.le_refl _))
  go_wp2
  rw [← HW3.out]
  go_loopw [12] (fun i wr => ∃ k : Nat, k ≤ f.length ∧ i = .int .i64 k ∧ Bld w1.heap.size w1.heap.size (Lib.byteCells (ftK f k)) wr ∧ Below w1.heap.size w1 wr) (fun i _ => f.length - (intOf i).toNat)
  case atStart => exact ⟨0, Nat.zero_le _, rfl, HN3.out, HB3.out⟩
  case round =>
    obtain ⟨k, hk, rfl, hbd, hb⟩ := hrel
    have HBD := Lib.hid hbd; clear hbd
    by_cases hlt : k < f.length
    · obtain ⟨b, off, rfl, _, hbl, hc⟩ := HF1.out (by omega)
      obtain ⟨hc0, hc1⟩ := hc k hlt
      clear hc
      rw [← hb.cell (p := ⟨b, off + k * 2, none⟩) hbl] at hc0
      rw [← hb.cell (p := ⟨b, off + k * 2 + 1, none⟩) hbl] at hc1
      have hsz := hb.size
      have hlb : w1.heap.size < wr.heap.size := by rcases HBD.out with h | h <;> exact Lib.BuilderAt.lt h
      have HB := Lib.hid hb; clear hb
      obtain ⟨z0, z1, z2⟩ := font_at HG.out hlt
      have HY := Lib.hid (cells_step hlt)
      have hnl : (baOf (numL f[k].2)).size ≤ 100001 := numL_len (by omega)
      have htl : (Lib.byteCells (ftK f k)).length ≤ 3300000 := by have := ftK_len HG.out k hk; rw [Lib.byteCells_length]; omega
      have HTW : Hid (∀ W, Below w1.heap.size w1 W → Tab W) := Lib.hid (fun W hW => (HT.out.below HA1.out).below hW)
      obtain ⟨D, hD⟩ : ∃ D, baOf (numL f[k].2) = D := ⟨_, rfl⟩
      rw [hD] at hnl HY
      have HD := Lib.hid hD; clear hD
      generalize f[k].1 = s at *
      generalize f[k].2 = z at *
      generalize Lib.byteCells (ftK f k) = T at *
      obtain ⟨W0, hW0⟩ : ∃ W0 : World, W0 = wr.alloc (.cells #[.string s, .int .i64 z] 25) := ⟨_, rfl⟩
      have hq0 : W0.cell? ⟨wr.heap.size, 0, none⟩ = some (.string s) := by rw [hW0]; simp
      have hq1 : W0.cell? ⟨wr.heap.size, 1, none⟩ = some (.int .i64 z) := by rw [hW0]; simp
      have hz0 : wr.heap.size < W0.heap.size := by rw [hW0]; simp
      have HB0 : Hid (Below w1.heap.size w1 W0) := by show Below _ _ _; rw [hW0]; exact HB.out.alloc hsz _
      have HN0 : Hid (Bld w1.heap.size w1.heap.size T W0) := by show Bld _ _ _ _; rw [hW0]; exact Bld.below HBD.out ((Below.refl _ _).alloc (Nat.le_refl _) _)
      have HW0 := Lib.hid hW0; clear hW0
      go_wp2_with fail
      rw [← HW0.out]
      clear hc0 hc1
      refine (writeString_more w1.heap.size w1.heap.size T s _ HN0.out (by omega) HB0.out.size).mono ?_
      rintro e w4 ⟨rfl, hn4, hb4, ho4⟩
      have hbx : w4.heap[wr.heap.size]? = some (.cells #[.string s, .int .i64 z] 25 (0, 0)) :=
        ho4 _ _ (by rw [HW0.out]; exact heap_new _ _) (by intro h; have h := Option.some.inj h; have := hlb; omega) (by intro c fz h; cases h)
      have hx1 : w4.cell? ⟨wr.heap.size, 1, none⟩ = some (.int .i64 z) := by rw [Lib.cell_of_heap hbx]; rfl
      have HB4 := Lib.hid (HB0.out.trans hb4)
      have HN4 := Lib.hid hn4
      clear hn4 hb4 ho4 hbx hq0 hq1 HW0
      go_wp2_with fail
      refine (itoa_is2 z D _ z1 (by omega) HD (HTW.out _ HB4.out)).mono ?_
      rintro e w5 ⟨rfl, hb5⟩
      have HB5 := Lib.hid (HB4.out.trans (hb5.mono HB4.out.size))
      have HN5 : Hid (Bld w1.heap.size w1.heap.size (T ++ Lib.strCells s) w5) := Lib.hid (Or.inr (BldAt.below HN4.out hb5))
      clear hb5 hx1
      have hl1 : (T ++ Lib.strCells s).length ≤ 3300003 := by rw [List.length_append, Lib.strCells_length]; omega
      generalize T ++ Lib.strCells s = T1 at *
      go_wp2_with fail
      refine (writeString_any w1.heap.size w1.heap.size T1 D _ HN5.out (by omega) HB5.out.size).mono ?_
      rintro e w6 ⟨rfl, hn6, hb6⟩
      have HB6 := Lib.hid (HB5.out.trans hb6)
      have HN6 := Lib.hid hn6
      clear hb6 hn6
      have hl2 : (T1 ++ Lib.strCells D).length ≤ 3500003 := by rw [List.length_append, Lib.strCells_length]; omega
      generalize T1 ++ Lib.strCells D = T2 at *
      go_wp2_with fail
      refine (writeByte_any w1.heap.size w1.heap.size T2 59 _ (Or.inr HN6.out) (by omega) HB6.out.size).mono ?_
      rintro e w7 ⟨rfl, hn7, hb7⟩
      have HB7 := Lib.hid (HB6.out.trans hb7)
      have HN7 : Hid (Bld w1.heap.size w1.heap.size (Lib.byteCells (ftK f (k + 1))) w7) := by show Bld _ _ _ _; rw [HY.out]; exact Or.inr hn7
      clear hb7 hn7
      go_wp2
      go_roundw
      case rel => exact ⟨k + 1, by omega, by go_num, HN7.out, HB7.out⟩
      case measure => simp [intOf]; omega
    · obtain rfl : k = f.length := by omega
      have HB := Lib.hid hb
      have hsz := hb.size
      clear hb
      go_wp2_with fail
      refine (Tryz.Builder_String_any w1.heap.size w1.heap.size _ _ HBD.out HB.out.size).mono ?_
      rintro e w7 ⟨rfl, hb7⟩
      have HB7 : Hid (Below w.heap.size w w7) := Lib.hid (HA1.out.trans ((HB.out.trans hb7).mono HA1.out.size))
      clear hb7
      go_wp2
      go_ret2
      exact ⟨ret_sb (ft_yes HG.out).symm HG.out.symm, HB7.out⟩
end Go.Proofs.YtiihhilhiknckaaGreatDoor.P
