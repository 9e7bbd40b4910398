/-
  FnExactLeastRecast: for every input (a slice of sorts, a slice of ints, a slice of strings, an int) the law returns true, and what it was given reads as before. Conditions: none beyond the given statement's own.
-/
import Derived.Test.YtdomccamkiplcaaRows
import Derived.Test.YtdomccamkiplcaaRec
import Derived.Test.YtdomccamkiplcaaOpenI
import Derived.Test.YtdomccamkiplcaaTos
import Derived.ProofKit
import Derived.OpenShut
import Derived.ShutString
import Derived.ChangeOld
import Derived.Lib.SmallJoins
namespace Go.Proofs.Ytdomccamkiplcaa.fnExactLeastRecast
open Go.ChangeShapes Go.WideShapes Go.ChangeAt Go.RowKit Go.Joins
open Go.ChangeMaps (open_string shut_string)
set_option linter.unusedVariables false

theorem own : ownKnob Try.prog.godebug = none := by kernel_rfl
theorem laidOut : laidOutB Try.prog = true := by kernel_rfl

set_option maxRecDepth 100000 in
set_option maxHeartbeats 1000000 in
theorem walk (A0 : Option Addr) (f0 : List (ByteArray × Int)) (c0 : Nat) (A1 : Option Addr) (l1 : List Int) (c1 : Nat) (A2 : Option Addr) (s2 : List ByteArray) (c2 : Nat) (a3 : Int) (w : World) (hs0 : SortsIn w 0 A0 f0) (ho0 : CodesOk f0) (hl0 : f0.length ≤ maxLen) (hs1 : IntsIn w A1 l1) (hl1 : l1.length ≤ maxLen) (hs2 : StrsIn w A2 s2) (ho2 : StrsOk s2) (hl2 : s2.length ≤ maxLen) (r3 : -9223372036854775808 ≤ a3 ∧ a3 ≤ 9223372036854775807) :
    Calls Try.prog 8 #[.slice A0 f0.length c0, .slice A1 l1.length c1, .slice A2 s2.length c2, .int .i64 a3] w fun e w' => e = .returned (.bool true) ∧ Below w.heap.size w w' := by
  have HS0 := Lib.hid hs0; clear hs0
  have HO0 := Lib.hid ho0; clear ho0
  unfold maxLen at hl0
  have HS1 := Lib.hid hs1; clear hs1
  unfold maxLen at hl1
  have HS2 := Lib.hid hs2; clear hs2
  have HO2 := Lib.hid ho2; clear ho2
  unfold maxLen at hl2
  have HR3 := Lib.hid r3; clear r3
  have A_0 : Hid (Below w.heap.size w w) := Lib.hid (Below.refl _ _)
  by_cases hlong1 : (1048576 : Int) < l1.length
  · go_enter Try.func8, Try.ntmps8
    go_wp2
    go_ret
    exact ⟨rfl, Below.refl _ _⟩
  have hn1 : l1.length ≤ 1048576 := by omega
  have hle0 : (1048576 : Int) ≤ 1048576 := by omega
  go_enter Try.func8, Try.ntmps8
  go_wp2_with fail
  have hfin0 := sz_len f0
  have hle0 := sz_range f0 1048576 (by omega)
  refine (szSortS_any f0 A0 c0 1048576 0 _ (HS0.out.below A_0.out (Nat.le_refl _)) HO0.out hl0 (by omega) (by omega)).mono ?_
  rintro e u1 ⟨rfl, hb1⟩
  have A_1 : Hid (Below w.heap.size w u1) := Lib.hid ((A_0.out).trans (Below.mono hb1 (A_0.out).size))
  clear A_0
  clear hb1
  generalize szSortSF f0 1048576 = z0 at *
  by_cases hz0 : z0 < 0
  · go_wp2
    go_ret
    exact ⟨rfl, A_1.out⟩
  have hn0 : f0.length ≤ 1048576 := hfin0 (by omega)
  clear hfin0
  go_wp2_with fail
  have hfin2 := szStrs_len s2 z0 (by omega)
  refine (szStringS_any s2 A2 c2 z0 _ (HS2.out.below A_1.out (Nat.le_refl _)) HO2.out hl2 (by omega) (by omega)).mono ?_
  rintro e u2 ⟨rfl, hb2⟩
  have A_2 : Hid (Below w.heap.size w u2) := Lib.hid ((A_1.out).trans (Below.mono hb2 (A_1.out).size))
  clear A_1
  clear hb2
  generalize szStringSF s2 z0 = z2 at *
  by_cases hz2 : z2 < 0
  · go_wp2
    go_ret
    exact ⟨rfl, A_2.out⟩
  have hn2 : s2.length ≤ 1048576 := hfin2 (by omega)
  clear hfin2
  go_wp2_with fail
  refine (toSortOwn_any f0 A0 c0 _ (HS0.out.below A_2.out (Nat.le_refl _)) hn0).mono ?_
  rintro e u3 ⟨rfl, hb3, hr3⟩
  have hB3 : u2.heap.size < u3.heap.size := row_lt hr3
  have A_3 : Hid (Below w.heap.size w u3) := Lib.hid ((A_2.out).trans (Below.mono hb3 (A_2.out).size))
  clear A_2
  clear hb3
  have Z0_3 : Hid (u3.ownsRow 0 77 2 (.slice (some ⟨u2.heap.size, 0, none⟩) f0.length f0.length) f0.length (flat f0)) := Lib.hid hr3
  clear hr3
  go_wp2_with fail
  refine (toIntOwn_any l1 A1 c1 _ (HS1.out.below A_3.out (Nat.le_refl _)) hn1).mono ?_
  rintro e u4 ⟨rfl, hb4, hr4⟩
  have hB4 : u3.heap.size < u4.heap.size := row_lt hr4
  have A_4 : Hid (Below w.heap.size w u4) := Lib.hid ((A_3.out).trans (Below.mono hb4 (A_3.out).size))
  have Z0_4 : Hid (u4.ownsRow 0 77 2 (.slice (some ⟨u2.heap.size, 0, none⟩) f0.length f0.length) f0.length (flat f0)) := Lib.hid (own_below Z0_3.out hb4)
  clear A_3 Z0_3
  clear hb4
  have Z1_4 : Hid (u4.ownsRow 0 3 1 (.slice (some ⟨u3.heap.size, 0, none⟩) l1.length l1.length) l1.length (intsZ l1)) := Lib.hid hr4
  clear hr4
  go_wp2_with fail
  refine (toStrOwn_any s2 A2 c2 _ (HS2.out.below A_4.out (Nat.le_refl _)) hn2).mono ?_
  rintro e u5 ⟨rfl, hb5, hr5⟩
  have hB5 : u4.heap.size < u5.heap.size := row_lt hr5
  have A_5 : Hid (Below w.heap.size w u5) := Lib.hid ((A_4.out).trans (Below.mono hb5 (A_4.out).size))
  have Z0_5 : Hid (u5.ownsRow 0 77 2 (.slice (some ⟨u2.heap.size, 0, none⟩) f0.length f0.length) f0.length (flat f0)) := Lib.hid (own_below Z0_4.out hb5)
  have Z1_5 : Hid (u5.ownsRow 0 3 1 (.slice (some ⟨u3.heap.size, 0, none⟩) l1.length l1.length) l1.length (intsZ l1)) := Lib.hid (own_below Z1_4.out hb5)
  clear A_4 Z0_4 Z1_4
  clear hb5
  have Z2_5 : Hid (u5.ownsRow 0 9 1 (.slice (some ⟨u4.heap.size, 0, none⟩) s2.length s2.length) s2.length (strs s2)) := Lib.hid hr5
  clear hr5
  -- S
  go_wp2_with fail
  refine (specRec_any f0 _ _ l1 _ _ s2 _ _ a3 0 _ (own_in_f Z0_5.out) hn0 HO0.out (own_in Z1_5.out) hn1 (own_in_s Z2_5.out) HO2.out hn2).mono ?_
  intro e u6 hto
  obtain ⟨vS, rfl, hb6, hoS⟩ := hto
  obtain ⟨AS, cS, rfl⟩ := own_form hoS
  have hszS : u5.heap.size ≤ u6.heap.size := hb6.size
  have ltS : Hid (∀ k, (Value.slice AS ((rcR f0 l1 s2 a3).getD []).length cS).ownBlock = some k → k < u6.heap.size) := Lib.hid (own_bound hoS)
  have A_6 : Hid (Below w.heap.size w u6) := Lib.hid ((A_5.out).trans (Below.mono hb6 (A_5.out).size))
  have Z0_6 : Hid (u6.ownsRow 0 77 2 (.slice (some ⟨u2.heap.size, 0, none⟩) f0.length f0.length) f0.length (flat f0)) := Lib.hid (own_below Z0_5.out hb6)
  have Z1_6 : Hid (u6.ownsRow 0 3 1 (.slice (some ⟨u3.heap.size, 0, none⟩) l1.length l1.length) l1.length (intsZ l1)) := Lib.hid (own_below Z1_5.out hb6)
  have Z2_6 : Hid (u6.ownsRow 0 9 1 (.slice (some ⟨u4.heap.size, 0, none⟩) s2.length s2.length) s2.length (strs s2)) := Lib.hid (own_below Z2_5.out hb6)
  clear A_5 Z0_5 Z1_5 Z2_5
  clear hb6
  have hwle0 : Hid (w.heap.size ≤ u6.heap.size) := Lib.hid A_6.out.size
  have OS_6 : Hid (u6.ownsRow 0 3 1 (.slice AS ((rcR f0 l1 s2 a3).getD []).length cS) ((rcR f0 l1 s2 a3).getD []).length (intsZ ((rcR f0 l1 s2 a3).getD []))) := Lib.hid (own_up hoS)
  clear hoS
  clear Z0_6
  clear Z1_6
  clear Z2_6
  go_wp2_with fail
  refine (toSortOwn_any f0 A0 c0 _ (HS0.out.below A_6.out (Nat.le_refl _)) hn0).mono ?_
  rintro e u7 ⟨rfl, hb7, hr7⟩
  have hB7 : u6.heap.size < u7.heap.size := row_lt hr7
  have A_7 : Hid (Below w.heap.size w u7) := Lib.hid ((A_6.out).trans (Below.mono hb7 (A_6.out).size))
  have OS_7 : Hid (u7.ownsRow 0 3 1 (.slice AS ((rcR f0 l1 s2 a3).getD []).length cS) ((rcR f0 l1 s2 a3).getD []).length (intsZ ((rcR f0 l1 s2 a3).getD []))) := Lib.hid (own_below OS_6.out hb7)
  clear A_6 OS_6
  clear hb7
  have X0_7 : Hid (u7.ownsRow 0 77 2 (.slice (some ⟨u6.heap.size, 0, none⟩) f0.length f0.length) f0.length (flat f0)) := Lib.hid hr7
  clear hr7
  go_wp2_with fail
  refine (toIntOwn_any l1 A1 c1 _ (HS1.out.below A_7.out (Nat.le_refl _)) hn1).mono ?_
  rintro e u8 ⟨rfl, hb8, hr8⟩
  have hB8 : u7.heap.size < u8.heap.size := row_lt hr8
  have A_8 : Hid (Below w.heap.size w u8) := Lib.hid ((A_7.out).trans (Below.mono hb8 (A_7.out).size))
  have OS_8 : Hid (u8.ownsRow 0 3 1 (.slice AS ((rcR f0 l1 s2 a3).getD []).length cS) ((rcR f0 l1 s2 a3).getD []).length (intsZ ((rcR f0 l1 s2 a3).getD []))) := Lib.hid (own_below OS_7.out hb8)
  have X0_8 : Hid (u8.ownsRow 0 77 2 (.slice (some ⟨u6.heap.size, 0, none⟩) f0.length f0.length) f0.length (flat f0)) := Lib.hid (own_below X0_7.out hb8)
  clear A_7 OS_7 X0_7
  clear hb8
  have X1_8 : Hid (u8.ownsRow 0 3 1 (.slice (some ⟨u7.heap.size, 0, none⟩) l1.length l1.length) l1.length (intsZ l1)) := Lib.hid hr8
  clear hr8
  go_wp2_with fail
  refine (toStrOwn_any s2 A2 c2 _ (HS2.out.below A_8.out (Nat.le_refl _)) hn2).mono ?_
  rintro e u9 ⟨rfl, hb9, hr9⟩
  have hB9 : u8.heap.size < u9.heap.size := row_lt hr9
  have A_9 : Hid (Below w.heap.size w u9) := Lib.hid ((A_8.out).trans (Below.mono hb9 (A_8.out).size))
  have OS_9 : Hid (u9.ownsRow 0 3 1 (.slice AS ((rcR f0 l1 s2 a3).getD []).length cS) ((rcR f0 l1 s2 a3).getD []).length (intsZ ((rcR f0 l1 s2 a3).getD []))) := Lib.hid (own_below OS_8.out hb9)
  have X0_9 : Hid (u9.ownsRow 0 77 2 (.slice (some ⟨u6.heap.size, 0, none⟩) f0.length f0.length) f0.length (flat f0)) := Lib.hid (own_below X0_8.out hb9)
  have X1_9 : Hid (u9.ownsRow 0 3 1 (.slice (some ⟨u7.heap.size, 0, none⟩) l1.length l1.length) l1.length (intsZ l1)) := Lib.hid (own_below X1_8.out hb9)
  clear A_8 OS_8 X0_8 X1_8
  clear hb9
  have X2_9 : Hid (u9.ownsRow 0 9 1 (.slice (some ⟨u8.heap.size, 0, none⟩) s2.length s2.length) s2.length (strs s2)) := Lib.hid hr9
  clear hr9
  -- G
  go_wp2_with fail
  refine (implRec_any f0 _ _ l1 _ _ s2 _ _ a3 0 _ (own_in_f X0_9.out) hn0 HO0.out (own_in X1_9.out) hn1 (own_in_s X2_9.out) HO2.out hn2).mono ?_
  intro e u10 hto
  obtain ⟨vG, rfl, hb10, hoG⟩ := hto
  obtain ⟨AG, cG, rfl⟩ := own_form hoG
  have hszG : u9.heap.size ≤ u10.heap.size := hb10.size
  have frG : Hid (∀ k, (Value.slice AG ((rcR f0 l1 s2 a3).getD []).length cG).ownBlock = some k → u9.heap.size ≤ k) := Lib.hid (own_lt hoG)
  have A_10 : Hid (Below w.heap.size w u10) := Lib.hid ((A_9.out).trans (Below.mono hb10 (A_9.out).size))
  have OS_10 : Hid (u10.ownsRow 0 3 1 (.slice AS ((rcR f0 l1 s2 a3).getD []).length cS) ((rcR f0 l1 s2 a3).getD []).length (intsZ ((rcR f0 l1 s2 a3).getD []))) := Lib.hid (own_below OS_9.out hb10)
  have X0_10 : Hid (u10.ownsRow 0 77 2 (.slice (some ⟨u6.heap.size, 0, none⟩) f0.length f0.length) f0.length (flat f0)) := Lib.hid (own_below X0_9.out hb10)
  have X1_10 : Hid (u10.ownsRow 0 3 1 (.slice (some ⟨u7.heap.size, 0, none⟩) l1.length l1.length) l1.length (intsZ l1)) := Lib.hid (own_below X1_9.out hb10)
  have X2_10 : Hid (u10.ownsRow 0 9 1 (.slice (some ⟨u8.heap.size, 0, none⟩) s2.length s2.length) s2.length (strs s2)) := Lib.hid (own_below X2_9.out hb10)
  clear A_9 OS_9 X0_9 X1_9 X2_9
  clear hb10
  have OG_10 : Hid (u10.ownsRow 0 3 1 (.slice AG ((rcR f0 l1 s2 a3).getD []).length cG) ((rcR f0 l1 s2 a3).getD []).length (intsZ ((rcR f0 l1 s2 a3).getD []))) := Lib.hid (own_up hoG)
  clear hoG
  have hmx := rcR_short f0 l1 s2 a3
  have HTO : Hid (∀ W B0 B1 B2, SortsIn W 0 B0 f0 → IntsIn W B1 l1 → StrsIn W B2 s2 → Calls Try.prog 24 #[.slice B0 f0.length f0.length, .slice B1 l1.length l1.length, .slice B2 s2.length s2.length, .int .i64 a3] W fun e W' => ∃ v, e = .returned (.tuple #[v, .bool (rcR f0 l1 s2 a3).isSome]) ∧ Below W.heap.size W W' ∧ W'.ownsRow W.heap.size 3 1 v ((rcR f0 l1 s2 a3).getD []).length (intsZ ((rcR f0 l1 s2 a3).getD []))) := Lib.hid (fun W B0 B1 B2 h0 h1 h2 => implRec_any f0 B0 f0.length l1 B1 l1.length s2 B2 s2.length a3 0 W h0 hn0 HO0.out h1 hn1 h2 HO2.out hn2)
  generalize (rcR f0 l1 s2 a3).isSome = b at *
  generalize (rcR f0 l1 s2 a3).getD [] = L at *
  have hbb : (b != b) = false := by simp
  have hmx2 : L.length ≤ maxLen := by unfold maxLen; omega
  go_wp2_with fail
  refine (eqIntS_any L L _ _ _ _ _ (own_in OG_10.out) (own_in OS_10.out) hmx2 hmx2).mono ?_
  rintro e u11 ⟨rfl, hb11⟩
  rw [show decide (L = L) = true from decide_eq_true rfl]
  have A_11 : Hid (Below w.heap.size w u11) := Lib.hid ((A_10.out).trans (Below.mono hb11 (A_10.out).size))
  have OS_11 : Hid (u11.ownsRow 0 3 1 (.slice AS L.length cS) L.length (intsZ L)) := Lib.hid (own_below OS_10.out hb11)
  have X0_11 : Hid (u11.ownsRow 0 77 2 (.slice (some ⟨u6.heap.size, 0, none⟩) f0.length f0.length) f0.length (flat f0)) := Lib.hid (own_below X0_10.out hb11)
  have X1_11 : Hid (u11.ownsRow 0 3 1 (.slice (some ⟨u7.heap.size, 0, none⟩) l1.length l1.length) l1.length (intsZ l1)) := Lib.hid (own_below X1_10.out hb11)
  have X2_11 : Hid (u11.ownsRow 0 9 1 (.slice (some ⟨u8.heap.size, 0, none⟩) s2.length s2.length) s2.length (strs s2)) := Lib.hid (own_below X2_10.out hb11)
  have OG_11 : Hid (u11.ownsRow 0 3 1 (.slice AG L.length cG) L.length (intsZ L)) := Lib.hid (own_below OG_10.out hb11)
  clear A_10 OS_10 X0_10 X1_10 X2_10 OG_10
  clear hb11
  -- argument 0 is as it was
  go_wp2_with fail
  refine (toSortOwn_any f0 A0 c0 _ (HS0.out.below A_11.out (Nat.le_refl _)) hn0).mono ?_
  rintro e u12 ⟨rfl, hb12, hr12⟩
  have A_12 : Hid (Below w.heap.size w u12) := Lib.hid ((A_11.out).trans (Below.mono hb12 (A_11.out).size))
  have OS_12 : Hid (u12.ownsRow 0 3 1 (.slice AS L.length cS) L.length (intsZ L)) := Lib.hid (own_below OS_11.out hb12)
  have X0_12 : Hid (u12.ownsRow 0 77 2 (.slice (some ⟨u6.heap.size, 0, none⟩) f0.length f0.length) f0.length (flat f0)) := Lib.hid (own_below X0_11.out hb12)
  have X1_12 : Hid (u12.ownsRow 0 3 1 (.slice (some ⟨u7.heap.size, 0, none⟩) l1.length l1.length) l1.length (intsZ l1)) := Lib.hid (own_below X1_11.out hb12)
  have X2_12 : Hid (u12.ownsRow 0 9 1 (.slice (some ⟨u8.heap.size, 0, none⟩) s2.length s2.length) s2.length (strs s2)) := Lib.hid (own_below X2_11.out hb12)
  have OG_12 : Hid (u12.ownsRow 0 3 1 (.slice AG L.length cG) L.length (intsZ L)) := Lib.hid (own_below OG_11.out hb12)
  clear A_11 OS_11 X0_11 X1_11 X2_11 OG_11
  clear hb12
  go_wp2_with fail
  refine (eqSortS_any f0 f0 _ _ _ _ 0 0 _ (own_in_f X0_12.out) (own_in_f hr12) (by unfold maxLen; omega) (by unfold maxLen; omega)).mono ?_
  rintro e u13 ⟨rfl, hb13⟩
  rw [show decide (f0 = f0) = true from decide_eq_true rfl]
  clear hr12
  have A_13 : Hid (Below w.heap.size w u13) := Lib.hid ((A_12.out).trans (Below.mono hb13 (A_12.out).size))
  have OS_13 : Hid (u13.ownsRow 0 3 1 (.slice AS L.length cS) L.length (intsZ L)) := Lib.hid (own_below OS_12.out hb13)
  have X0_13 : Hid (u13.ownsRow 0 77 2 (.slice (some ⟨u6.heap.size, 0, none⟩) f0.length f0.length) f0.length (flat f0)) := Lib.hid (own_below X0_12.out hb13)
  have X1_13 : Hid (u13.ownsRow 0 3 1 (.slice (some ⟨u7.heap.size, 0, none⟩) l1.length l1.length) l1.length (intsZ l1)) := Lib.hid (own_below X1_12.out hb13)
  have X2_13 : Hid (u13.ownsRow 0 9 1 (.slice (some ⟨u8.heap.size, 0, none⟩) s2.length s2.length) s2.length (strs s2)) := Lib.hid (own_below X2_12.out hb13)
  have OG_13 : Hid (u13.ownsRow 0 3 1 (.slice AG L.length cG) L.length (intsZ L)) := Lib.hid (own_below OG_12.out hb13)
  clear A_12 OS_12 X0_12 X1_12 X2_12 OG_12
  clear hb13
  -- argument 1 is as it was
  go_wp2_with fail
  refine (toIntOwn_any l1 A1 c1 _ (HS1.out.below A_13.out (Nat.le_refl _)) hn1).mono ?_
  rintro e u14 ⟨rfl, hb14, hr14⟩
  have A_14 : Hid (Below w.heap.size w u14) := Lib.hid ((A_13.out).trans (Below.mono hb14 (A_13.out).size))
  have OS_14 : Hid (u14.ownsRow 0 3 1 (.slice AS L.length cS) L.length (intsZ L)) := Lib.hid (own_below OS_13.out hb14)
  have X0_14 : Hid (u14.ownsRow 0 77 2 (.slice (some ⟨u6.heap.size, 0, none⟩) f0.length f0.length) f0.length (flat f0)) := Lib.hid (own_below X0_13.out hb14)
  have X1_14 : Hid (u14.ownsRow 0 3 1 (.slice (some ⟨u7.heap.size, 0, none⟩) l1.length l1.length) l1.length (intsZ l1)) := Lib.hid (own_below X1_13.out hb14)
  have X2_14 : Hid (u14.ownsRow 0 9 1 (.slice (some ⟨u8.heap.size, 0, none⟩) s2.length s2.length) s2.length (strs s2)) := Lib.hid (own_below X2_13.out hb14)
  have OG_14 : Hid (u14.ownsRow 0 3 1 (.slice AG L.length cG) L.length (intsZ L)) := Lib.hid (own_below OG_13.out hb14)
  clear A_13 OS_13 X0_13 X1_13 X2_13 OG_13
  clear hb14
  go_wp2_with fail
  refine (eqIntS_any l1 l1 _ _ _ _ _ (own_in X1_14.out) (own_in hr14) (by unfold maxLen; omega) (by unfold maxLen; omega)).mono ?_
  rintro e u15 ⟨rfl, hb15⟩
  rw [show decide (l1 = l1) = true from decide_eq_true rfl]
  clear hr14
  have A_15 : Hid (Below w.heap.size w u15) := Lib.hid ((A_14.out).trans (Below.mono hb15 (A_14.out).size))
  have OS_15 : Hid (u15.ownsRow 0 3 1 (.slice AS L.length cS) L.length (intsZ L)) := Lib.hid (own_below OS_14.out hb15)
  have X0_15 : Hid (u15.ownsRow 0 77 2 (.slice (some ⟨u6.heap.size, 0, none⟩) f0.length f0.length) f0.length (flat f0)) := Lib.hid (own_below X0_14.out hb15)
  have X1_15 : Hid (u15.ownsRow 0 3 1 (.slice (some ⟨u7.heap.size, 0, none⟩) l1.length l1.length) l1.length (intsZ l1)) := Lib.hid (own_below X1_14.out hb15)
  have X2_15 : Hid (u15.ownsRow 0 9 1 (.slice (some ⟨u8.heap.size, 0, none⟩) s2.length s2.length) s2.length (strs s2)) := Lib.hid (own_below X2_14.out hb15)
  have OG_15 : Hid (u15.ownsRow 0 3 1 (.slice AG L.length cG) L.length (intsZ L)) := Lib.hid (own_below OG_14.out hb15)
  clear A_14 OS_14 X0_14 X1_14 X2_14 OG_14
  clear hb15
  -- argument 2 is as it was
  go_wp2_with fail
  refine (toStrOwn_any s2 A2 c2 _ (HS2.out.below A_15.out (Nat.le_refl _)) hn2).mono ?_
  rintro e u16 ⟨rfl, hb16, hr16⟩
  have A_16 : Hid (Below w.heap.size w u16) := Lib.hid ((A_15.out).trans (Below.mono hb16 (A_15.out).size))
  have OS_16 : Hid (u16.ownsRow 0 3 1 (.slice AS L.length cS) L.length (intsZ L)) := Lib.hid (own_below OS_15.out hb16)
  have X0_16 : Hid (u16.ownsRow 0 77 2 (.slice (some ⟨u6.heap.size, 0, none⟩) f0.length f0.length) f0.length (flat f0)) := Lib.hid (own_below X0_15.out hb16)
  have X1_16 : Hid (u16.ownsRow 0 3 1 (.slice (some ⟨u7.heap.size, 0, none⟩) l1.length l1.length) l1.length (intsZ l1)) := Lib.hid (own_below X1_15.out hb16)
  have X2_16 : Hid (u16.ownsRow 0 9 1 (.slice (some ⟨u8.heap.size, 0, none⟩) s2.length s2.length) s2.length (strs s2)) := Lib.hid (own_below X2_15.out hb16)
  have OG_16 : Hid (u16.ownsRow 0 3 1 (.slice AG L.length cG) L.length (intsZ L)) := Lib.hid (own_below OG_15.out hb16)
  clear A_15 OS_15 X0_15 X1_15 X2_15 OG_15
  clear hb16
  go_wp2_with fail
  refine (eqStringS_any s2 s2 _ _ _ _ _ (own_in_s X2_16.out) (own_in_s hr16) (by unfold maxLen; omega) (by unfold maxLen; omega)).mono ?_
  rintro e u17 ⟨rfl, hb17⟩
  rw [show decide (s2 = s2) = true from decide_eq_true rfl]
  clear hr16
  have A_17 : Hid (Below w.heap.size w u17) := Lib.hid ((A_16.out).trans (Below.mono hb17 (A_16.out).size))
  have OS_17 : Hid (u17.ownsRow 0 3 1 (.slice AS L.length cS) L.length (intsZ L)) := Lib.hid (own_below OS_16.out hb17)
  have X0_17 : Hid (u17.ownsRow 0 77 2 (.slice (some ⟨u6.heap.size, 0, none⟩) f0.length f0.length) f0.length (flat f0)) := Lib.hid (own_below X0_16.out hb17)
  have X1_17 : Hid (u17.ownsRow 0 3 1 (.slice (some ⟨u7.heap.size, 0, none⟩) l1.length l1.length) l1.length (intsZ l1)) := Lib.hid (own_below X1_16.out hb17)
  have X2_17 : Hid (u17.ownsRow 0 9 1 (.slice (some ⟨u8.heap.size, 0, none⟩) s2.length s2.length) s2.length (strs s2)) := Lib.hid (own_below X2_16.out hb17)
  have OG_17 : Hid (u17.ownsRow 0 3 1 (.slice AG L.length cG) L.length (intsZ L)) := Lib.hid (own_below OG_16.out hb17)
  clear A_16 OS_16 X0_16 X1_16 X2_16 OG_16
  clear hb17
  go_wp2_with fail
  refine (markSortS_any 1 f0.length 0 _ _ _ X0_17.out (by omega) (by omega)).mono ?_
  rintro e u18 ⟨rfl, hg18, _⟩
  clear X0_17
  have hwle : w.heap.size ≤ u6.heap.size := hwle0.out
  have A_18 : Hid (Below w.heap.size w u18) := Lib.hid ((A_17.out).grown hg18 (A_17.out).size (fun k hk => by have e1 : u6.heap.size = k := Option.some.inj hk; omega))
  have OS_18 : Hid (u18.ownsRow 0 3 1 (.slice AS L.length cS) L.length (intsZ L)) := Lib.hid (own_grown OS_17.out hg18 (fun k hk e => by have e1 : u6.heap.size = k := Option.some.inj e; have e2 := ltS.out k hk; omega))
  have X1_18 : Hid (u18.ownsRow 0 3 1 (.slice (some ⟨u7.heap.size, 0, none⟩) l1.length l1.length) l1.length (intsZ l1)) := Lib.hid (own_grown X1_17.out hg18 (fun k hk e => by have e1 : u6.heap.size = k := Option.some.inj e; have e2 : u7.heap.size = k := Option.some.inj hk; omega))
  have X2_18 : Hid (u18.ownsRow 0 9 1 (.slice (some ⟨u8.heap.size, 0, none⟩) s2.length s2.length) s2.length (strs s2)) := Lib.hid (own_grown X2_17.out hg18 (fun k hk e => by have e1 : u6.heap.size = k := Option.some.inj e; have e2 : u8.heap.size = k := Option.some.inj hk; omega))
  have OG_18 : Hid (u18.ownsRow 0 3 1 (.slice AG L.length cG) L.length (intsZ L)) := Lib.hid (own_grown OG_17.out hg18 (fun k hk e => by have e1 : u6.heap.size = k := Option.some.inj e; have e2 := frG.out k hk; omega))
  clear A_17 OS_17 X1_17 X2_17 OG_17
  clear hg18
  obtain ⟨k0, hk0⟩ : ∃ k : Nat, k = (1 + 2 * f0.length) := ⟨_, rfl⟩
  rw [← hk0]
  have hkb0 : 1 ≤ k0 ∧ k0 ≤ 1 + 2 * 1048576 := by omega
  clear hk0
  obtain ⟨hka0, hkc0⟩ := hkb0
  go_wp2_with fail
  refine (markIntS_any ((k0 : Nat) : Int) l1.length 0 _ _ _ X1_18.out (by omega) (by omega)).mono ?_
  rintro e u19 ⟨rfl, hg19, _⟩
  rw [show (((k0 : Nat) : Int) + (l1.length : Int)) = (((k0 + l1.length) : Nat) : Int) from by omega]
  clear X1_18
  have A_19 : Hid (Below w.heap.size w u19) := Lib.hid ((A_18.out).grown hg19 (A_18.out).size (fun k hk => by have e1 : u7.heap.size = k := Option.some.inj hk; omega))
  have OS_19 : Hid (u19.ownsRow 0 3 1 (.slice AS L.length cS) L.length (intsZ L)) := Lib.hid (own_grown OS_18.out hg19 (fun k hk e => by have e1 : u7.heap.size = k := Option.some.inj e; have e2 := ltS.out k hk; omega))
  have X2_19 : Hid (u19.ownsRow 0 9 1 (.slice (some ⟨u8.heap.size, 0, none⟩) s2.length s2.length) s2.length (strs s2)) := Lib.hid (own_grown X2_18.out hg19 (fun k hk e => by have e1 : u7.heap.size = k := Option.some.inj e; have e2 : u8.heap.size = k := Option.some.inj hk; omega))
  have OG_19 : Hid (u19.ownsRow 0 3 1 (.slice AG L.length cG) L.length (intsZ L)) := Lib.hid (own_grown OG_18.out hg19 (fun k hk e => by have e1 : u7.heap.size = k := Option.some.inj e; have e2 := frG.out k hk; omega))
  clear A_18 OS_18 X2_18 OG_18
  clear hg19
  obtain ⟨k1, hk1⟩ : ∃ k : Nat, k = (k0 + l1.length) := ⟨_, rfl⟩
  rw [← hk1]
  have hkb1 : 1 ≤ k1 ∧ k1 ≤ 1 + 3 * 1048576 := by omega
  clear hk1
  obtain ⟨hka1, hkc1⟩ := hkb1
  go_wp2_with fail
  refine (markStringS_any k1 s2.length 0 _ _ _ X2_19.out (by omega) (by omega)).mono ?_
  rintro e u20 ⟨rfl, hg20, _⟩
  clear X2_19
  have A_20 : Hid (Below w.heap.size w u20) := Lib.hid ((A_19.out).grown hg20 (A_19.out).size (fun k hk => by have e1 : u8.heap.size = k := Option.some.inj hk; omega))
  have OS_20 : Hid (u20.ownsRow 0 3 1 (.slice AS L.length cS) L.length (intsZ L)) := Lib.hid (own_grown OS_19.out hg20 (fun k hk e => by have e1 : u8.heap.size = k := Option.some.inj e; have e2 := ltS.out k hk; omega))
  have OG_20 : Hid (u20.ownsRow 0 3 1 (.slice AG L.length cG) L.length (intsZ L)) := Lib.hid (own_grown OG_19.out hg20 (fun k hk e => by have e1 : u8.heap.size = k := Option.some.inj e; have e2 := frG.out k hk; omega))
  clear A_19 OS_19 OG_19
  clear hg20
  obtain ⟨k2, hk2⟩ : ∃ k : Nat, k = (k1 + s2.length) := ⟨_, rfl⟩
  rw [← hk2]
  have hkb2 : 1 ≤ k2 ∧ k2 ≤ 1 + 4 * 1048576 := by omega
  clear hk2
  obtain ⟨hka2, hkc2⟩ := hkb2
  have hk0 : ¬ ((k2 : Nat) : Int) < 0 := by omega
  go_wp2_with fail
  refine (eqIntS_any L L _ _ _ _ _ (own_in OG_20.out) (own_in OS_20.out) hmx2 hmx2).mono ?_
  rintro e u21 ⟨rfl, hb21⟩
  rw [show decide (L = L) = true from decide_eq_true rfl]
  have A_21 : Hid (Below w.heap.size w u21) := Lib.hid ((A_20.out).trans (Below.mono hb21 (A_20.out).size))
  have OS_21 : Hid (u21.ownsRow 0 3 1 (.slice AS L.length cS) L.length (intsZ L)) := Lib.hid (own_below OS_20.out hb21)
  have OG_21 : Hid (u21.ownsRow 0 3 1 (.slice AG L.length cG) L.length (intsZ L)) := Lib.hid (own_below OG_20.out hb21)
  clear A_20 OS_20 OG_20
  clear hb21
  go_wp2_with fail
  refine (markIntS_any 1 L.length 0 _ _ _ OG_21.out (by omega) (by omega)).mono ?_
  rintro e u22 ⟨rfl, hg22, om⟩
  have hne : ∀ k, (Value.slice AS L.length cS).ownBlock = some k → (Value.slice AG L.length cG).ownBlock ≠ some k := fun k h1 h2 => by have e1 := ltS.out k h1; have e2 := frG.out k h2; omega
  clear OG_21
  have A_22 : Hid (Below w.heap.size w u22) := Lib.hid ((A_21.out).grown hg22 (A_21.out).size (fun k hk => by have e1 := frG.out k hk; omega))
  have OS_22 : Hid (u22.ownsRow 0 3 1 (.slice AS L.length cS) L.length (intsZ L)) := Lib.hid (own_grown OS_21.out hg22 hne)
  clear A_21 OS_21
  have OM_22 : Hid (u22.ownsRow 0 3 1 (.slice AG L.length cG) L.length (intsZ (marks 1 L.length))) := Lib.hid om
  have hqm : (1 + (L.length : Int) != 1 + (L.length : Int)) = false := by simp
  clear hg22 om hne
  go_wp2_with fail
  refine (heldIntS_any 1 L.length _ _ _ (own_in OM_22.out) (by omega) (by omega)).mono ?_
  rintro e u23 ⟨rfl, hwu23⟩
  subst hwu23
  -- another call
  go_wp2_with fail
  refine (toSortOwn_any f0 A0 c0 _ (HS0.out.below A_22.out (Nat.le_refl _)) hn0).mono ?_
  rintro e u24 ⟨rfl, hb24, hr24⟩
  have hB24 : u22.heap.size < u24.heap.size := row_lt hr24
  have A_23 : Hid (Below w.heap.size w u24) := Lib.hid ((A_22.out).trans (Below.mono hb24 (A_22.out).size))
  have OS_23 : Hid (u24.ownsRow 0 3 1 (.slice AS L.length cS) L.length (intsZ L)) := Lib.hid (own_below OS_22.out hb24)
  have OM_23 : Hid (u24.ownsRow 0 3 1 (.slice AG L.length cG) L.length (intsZ (marks 1 L.length))) := Lib.hid (own_below OM_22.out hb24)
  clear A_22 OS_22 OM_22
  clear hb24
  have Y0_23 : Hid (u24.ownsRow 0 77 2 (.slice (some ⟨u22.heap.size, 0, none⟩) f0.length f0.length) f0.length (flat f0)) := Lib.hid hr24
  clear hr24
  go_wp2_with fail
  refine (toIntOwn_any l1 A1 c1 _ (HS1.out.below A_23.out (Nat.le_refl _)) hn1).mono ?_
  rintro e u25 ⟨rfl, hb25, hr25⟩
  have hB25 : u24.heap.size < u25.heap.size := row_lt hr25
  have A_24 : Hid (Below w.heap.size w u25) := Lib.hid ((A_23.out).trans (Below.mono hb25 (A_23.out).size))
  have OS_24 : Hid (u25.ownsRow 0 3 1 (.slice AS L.length cS) L.length (intsZ L)) := Lib.hid (own_below OS_23.out hb25)
  have OM_24 : Hid (u25.ownsRow 0 3 1 (.slice AG L.length cG) L.length (intsZ (marks 1 L.length))) := Lib.hid (own_below OM_23.out hb25)
  have Y0_24 : Hid (u25.ownsRow 0 77 2 (.slice (some ⟨u22.heap.size, 0, none⟩) f0.length f0.length) f0.length (flat f0)) := Lib.hid (own_below Y0_23.out hb25)
  clear A_23 OS_23 OM_23 Y0_23
  clear hb25
  have Y1_24 : Hid (u25.ownsRow 0 3 1 (.slice (some ⟨u24.heap.size, 0, none⟩) l1.length l1.length) l1.length (intsZ l1)) := Lib.hid hr25
  clear hr25
  go_wp2_with fail
  refine (toStrOwn_any s2 A2 c2 _ (HS2.out.below A_24.out (Nat.le_refl _)) hn2).mono ?_
  rintro e u26 ⟨rfl, hb26, hr26⟩
  have hB26 : u25.heap.size < u26.heap.size := row_lt hr26
  have A_25 : Hid (Below w.heap.size w u26) := Lib.hid ((A_24.out).trans (Below.mono hb26 (A_24.out).size))
  have OS_25 : Hid (u26.ownsRow 0 3 1 (.slice AS L.length cS) L.length (intsZ L)) := Lib.hid (own_below OS_24.out hb26)
  have OM_25 : Hid (u26.ownsRow 0 3 1 (.slice AG L.length cG) L.length (intsZ (marks 1 L.length))) := Lib.hid (own_below OM_24.out hb26)
  have Y0_25 : Hid (u26.ownsRow 0 77 2 (.slice (some ⟨u22.heap.size, 0, none⟩) f0.length f0.length) f0.length (flat f0)) := Lib.hid (own_below Y0_24.out hb26)
  have Y1_25 : Hid (u26.ownsRow 0 3 1 (.slice (some ⟨u24.heap.size, 0, none⟩) l1.length l1.length) l1.length (intsZ l1)) := Lib.hid (own_below Y1_24.out hb26)
  clear A_24 OS_24 OM_24 Y0_24 Y1_24
  clear hb26
  have Y2_25 : Hid (u26.ownsRow 0 9 1 (.slice (some ⟨u25.heap.size, 0, none⟩) s2.length s2.length) s2.length (strs s2)) := Lib.hid hr26
  clear hr26
  go_wp2_with fail
  refine (HTO.out _ _ _ _ (own_in_f Y0_25.out) (own_in Y1_25.out) (own_in_s Y2_25.out)).mono ?_
  intro e u27 hto
  obtain ⟨vH, rfl, hb27, hoH⟩ := hto
  obtain ⟨AH, cH, rfl⟩ := own_form hoH
  have A_26 : Hid (Below w.heap.size w u27) := Lib.hid ((A_25.out).trans (Below.mono hb27 (A_25.out).size))
  have OS_26 : Hid (u27.ownsRow 0 3 1 (.slice AS L.length cS) L.length (intsZ L)) := Lib.hid (own_below OS_25.out hb27)
  have OM_26 : Hid (u27.ownsRow 0 3 1 (.slice AG L.length cG) L.length (intsZ (marks 1 L.length))) := Lib.hid (own_below OM_25.out hb27)
  have Y0_26 : Hid (u27.ownsRow 0 77 2 (.slice (some ⟨u22.heap.size, 0, none⟩) f0.length f0.length) f0.length (flat f0)) := Lib.hid (own_below Y0_25.out hb27)
  have Y1_26 : Hid (u27.ownsRow 0 3 1 (.slice (some ⟨u24.heap.size, 0, none⟩) l1.length l1.length) l1.length (intsZ l1)) := Lib.hid (own_below Y1_25.out hb27)
  have Y2_26 : Hid (u27.ownsRow 0 9 1 (.slice (some ⟨u25.heap.size, 0, none⟩) s2.length s2.length) s2.length (strs s2)) := Lib.hid (own_below Y2_25.out hb27)
  clear A_25 OS_25 OM_25 Y0_25 Y1_25 Y2_25
  clear hb27
  clear Y0_26
  clear Y1_26
  clear Y2_26
  have OH_26 : Hid (u27.ownsRow 0 3 1 (.slice AH L.length cH) L.length (intsZ L)) := Lib.hid (own_up hoH)
  clear hoH
  go_wp2_with fail
  refine (eqIntS_any L L _ _ _ _ _ (own_in OH_26.out) (own_in OS_26.out) hmx2 hmx2).mono ?_
  rintro e u28 ⟨rfl, hb28⟩
  rw [show decide (L = L) = true from decide_eq_true rfl]
  have A_27 : Hid (Below w.heap.size w u28) := Lib.hid ((A_26.out).trans (Below.mono hb28 (A_26.out).size))
  have OS_27 : Hid (u28.ownsRow 0 3 1 (.slice AS L.length cS) L.length (intsZ L)) := Lib.hid (own_below OS_26.out hb28)
  have OM_27 : Hid (u28.ownsRow 0 3 1 (.slice AG L.length cG) L.length (intsZ (marks 1 L.length))) := Lib.hid (own_below OM_26.out hb28)
  have OH_27 : Hid (u28.ownsRow 0 3 1 (.slice AH L.length cH) L.length (intsZ L)) := Lib.hid (own_below OH_26.out hb28)
  clear A_26 OS_26 OM_26 OH_26
  clear hb28
  go_wp2_with fail
  refine (heldIntS_any 1 L.length _ _ _ (own_in OM_27.out) (by omega) (by omega)).mono ?_
  rintro e u29 ⟨rfl, hwu29⟩
  subst hwu29
  go_wp2
  go_ret
  exact ⟨rfl, A_27.out⟩

set_option maxRecDepth 100000 in
theorem lifted (os : Os) (started : os.Started) (H : Type) (enc : TypeId × Value → H) :
    ReturnsInHanded {} Try.checked os 8 .any (Rows.fnExactLeastRecastSpec.pre6 enc Try.prog Try.f8 Rows.fnExactLeastRecastRow.domain false) (Rows.fnExactLeastRecastSpec.post enc Try.prog Try.f8 false true false false) := by
  refine returnsInHanded_of_change (C := Try.checked) own started (by kernel_rfl) Try.func8
    (ChangeSpec.witness6 (enc := enc) (C := Try.checked) false ⟨#[], #[.slice none 0 0, .slice none 0 0, .slice none 0 0, .int .i64 0], []⟩ 8 (by kernel_rfl) (by kernel_rfl) (by kernel_rfl) (by kernel_rfl)) ?_
  intro W base args ds gs before hval0 hW hcnd _
  have hval : ∀ (j : Nat) t v, Try.f8.params[j]? = some t → args[j]? = some v → Value.okWide Try.prog W .any base t v := hval0
  have hW' := hW
  obtain ⟨p, q, hA0, hV, rfl, hfz, hnd⟩ := hW
  have hA : DataW.TrodAll enc Try.prog W 0 (fun _ => true) true Try.f8.params.toList args.toList ds p := hA0
  rw [Try.params8] at hA hval
  obtain ⟨v0, vs0, d0, ds0, p0, q0, hargs, rfl, rfl, h0, r0⟩ := trodAll_cons hA
  obtain ⟨v1, vs1, d1, ds1, p1, q1, rfl, rfl, rfl, h1, r1⟩ := trodAll_cons r0
  obtain ⟨v2, vs2, d2, ds2, p2, q2, rfl, rfl, rfl, h2, r2⟩ := trodAll_cons r1
  obtain ⟨v3, vs3, d3, ds3, p3, q3, rfl, rfl, rfl, h3, r3⟩ := trodAll_cons r2
  obtain ⟨rfl, rfl, rfl⟩ := trodAll_nil r3
  obtain rfl : args = #[v0, v1, v2, v3] := by cases args; simp_all
  obtain ⟨rfl, rfl⟩ := trodVars_none hV
  have k0 := h0
  have lt0 : ∀ x ∈ p0, x.block < W.heap.size := by obtain ⟨m, hm⟩ := k0; exact DataW.trod_lt m _ _ _ hm
  have k1 := h1
  have lt1 : ∀ x ∈ p1, x.block < W.heap.size := by obtain ⟨m, hm⟩ := k1; exact DataW.trod_lt m _ _ _ hm
  have k2 := h2
  have lt2 : ∀ x ∈ p2, x.block < W.heap.size := by obtain ⟨m, hm⟩ := k2; exact DataW.trod_lt m _ _ _ hm
  have k3 := h3
  have lt3 : ∀ x ∈ p3, x.block < W.heap.size := by obtain ⟨m, hm⟩ := k3; exact DataW.trod_lt m _ _ _ hm
  obtain ⟨A0, f0, c0, rfl, hs0, ho0, hl0⟩ := open_sorts (hval 0 43 v0 rfl rfl) h0
  obtain ⟨A1, f1, c1, rfl, hs1, hl1⟩ := open_intz (hval 1 24 v1 rfl rfl) h1
  obtain ⟨A2, f2, c2, rfl, hs2, ho2, hl2⟩ := open_strs (hval 2 25 v2 rfl rfl) h2
  obtain ⟨a3, rfl, rfl, rfl, wa3⟩ := open_int Try.underlying3 (hval 3 3 v3 rfl rfl) h3
  clear hA0 hval0
  refine (walk A0 f0 c0 A1 f1 c1 A2 f2 c2 a3 W hs0 ho0 hl0 hs1 hl1 hs2 ho2 hl2 (wf_range wa3)).mono fun e W' ⟨he, bel⟩ => ?_
  subst he
  exact ⟨_, rfl, _, _, _, [], _, [], hW', trodAll_mk1 (shut_bool Try.underlying4 _), (trodAll_cons_mk (Below.trod laidOut (by kernel_rfl) (of_decide_eq_true (by kernel_rfl)) k0 bel lt0) (trodAll_cons_mk (Below.trod laidOut (by kernel_rfl) (of_decide_eq_true (by kernel_rfl)) k1 bel lt1) (trodAll_cons_mk (Below.trod laidOut (by kernel_rfl) (of_decide_eq_true (by kernel_rfl)) k2 bel lt2) (trodAll_cons_mk (Below.trod laidOut (by kernel_rfl) (of_decide_eq_true (by kernel_rfl)) k3 bel lt3) trodAll_mk0)))), rfl, bel.frame _, fun h => by cases h⟩

theorem over : Rows.fnExactLeastRecastRow.holds Try.pinned (OpenSpec.ofChange Rows.fnExactLeastRecastSpec) :=
  OpenClaim.holds_of_wide 8 Try.f8 rfl rfl rfl rfl rfl rfl rfl ⟨rfl, rfl, rfl, rfl, rfl⟩ rfl rfl rfl rfl rfl (by kernel_rfl) Try.func8 (by kernel_rfl)
    (of_decide_eq_true (by kernel_rfl)) (by unfold Func.isWrapper; first | (rw [if_pos (by decide +kernel)]; kernel_rfl) | (rw [if_neg (by decide +kernel)]; exact ⟨rfl, rfl⟩))
    (fun os started H enc _ => lifted os started H enc)

theorem proved : Rows.FnExactLeastRecastSaid := over
end Go.Proofs.Ytdomccamkiplcaa.fnExactLeastRecast
