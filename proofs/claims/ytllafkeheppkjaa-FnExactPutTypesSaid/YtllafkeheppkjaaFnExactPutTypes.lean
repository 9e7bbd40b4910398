/-
  FnExactPutTypes: for every input (a slice of Box structs, a slice of strings) the law returns true, and what it was given reads as before. Conditions: none beyond the given statement's own.
-/
import Derived.Test.YtllafkeheppkjaaRows
import Derived.Test.YtllafkeheppkjaaMw
import Derived.Test.YtllafkeheppkjaaOpenBx
import Derived.Test.YtllafkeheppkjaaOpenI
import Derived.Test.YtllafkeheppkjaaTos
import Derived.ProofKit
import Derived.OpenShut
import Derived.ShutString
import Derived.ChangeOld
import Derived.Lib.SmallJoins
namespace Go.Proofs.Ytllafkeheppkjaa.fnExactPutTypes
open Go.ChangeShapes Go.WideShapes Go.ChangeAt Go.RowKit Go.Joins
open Go.ChangeMaps (open_string shut_string)
set_option linter.unusedVariables false

theorem own : ownKnob Try.prog.godebug = none := by kernel_rfl
theorem laidOut : laidOutB Try.prog = true := by kernel_rfl

set_option maxRecDepth 100000 in
set_option maxHeartbeats 1000000 in
theorem walk (A0 : Option Addr) (f0 : List Bx) (c0 : Nat) (A1 : Option Addr) (s1 : List ByteArray) (c1 : Nat) (w : World) (hs0 : BxsIn w A0 f0) (ho0 : BxsOk f0) (hl0 : f0.length ≤ maxLen) (hs1 : StrsIn w A1 s1) (ho1 : StrsOk s1) (hl1 : s1.length ≤ maxLen) :
    Calls Try.prog 11 #[.slice A0 f0.length c0, .slice A1 s1.length c1] w fun e w' => e = .returned (.bool true) ∧ Below w.heap.size w w' := by
  have HS0 := Lib.hid hs0; clear hs0
  have HO0 := Lib.hid ho0; clear ho0
  unfold maxLen at hl0
  have HS1 := Lib.hid hs1; clear hs1
  have HO1 := Lib.hid ho1; clear ho1
  unfold maxLen at hl1
  have A_0 : Hid (Below w.heap.size w w) := Lib.hid (Below.refl _ _)
  have hle0 : (1048576 : Int) ≤ 1048576 := by omega
  go_enter Try.func11, Try.ntmps11
  go_wp2_with fail
  have hfin0 := szBx_len f0 1048576 (by omega)
  have hle0 := szBx_range f0 1048576 (by omega)
  refine (szBoxS_any f0 A0 c0 1048576 _ (HS0.out.below A_0.out (Nat.le_refl _)) HO0.out hl0 (by omega) (by omega)).mono ?_
  rintro e u1 ⟨rfl, hb1⟩
  have A_1 : Hid (Below w.heap.size w u1) := Lib.hid ((A_0.out).trans (Below.mono hb1 (A_0.out).size))
  clear A_0
  clear hb1
  generalize szBxS f0 1048576 = z0 at *
  by_cases hz0 : z0 < 0
  · go_wp2
    go_ret
    exact ⟨rfl, A_1.out⟩
  have hn0 : f0.length ≤ 1048576 := hfin0 (by omega)
  clear hfin0
  go_wp2_with fail
  have hfin1 := szStrs_len s1 z0 (by omega)
  refine (szStringS_any s1 A1 c1 z0 _ (HS1.out.below A_1.out (Nat.le_refl _)) HO1.out hl1 (by omega) (by omega)).mono ?_
  rintro e u2 ⟨rfl, hb2⟩
  have A_2 : Hid (Below w.heap.size w u2) := Lib.hid ((A_1.out).trans (Below.mono hb2 (A_1.out).size))
  clear A_1
  clear hb2
  generalize szStringSF s1 z0 = z1 at *
  by_cases hz1 : z1 < 0
  · go_wp2
    go_ret
    exact ⟨rfl, A_2.out⟩
  have hn1 : s1.length ≤ 1048576 := hfin1 (by omega)
  clear hfin1
  go_wp2_with fail
  refine (toBoxS_any f0 A0 c0 _ (HS0.out.below A_2.out (Nat.le_refl _)) hn0).mono ?_
  rintro e u3 ⟨rfl, hb3, hr3⟩
  have hB3 : u2.heap.size < u3.heap.size := row_lt hr3
  have A_3 : Hid (Below w.heap.size w u3) := Lib.hid ((A_2.out).trans (Below.mono hb3 (A_2.out).size))
  clear A_2
  clear hb3
  have Z0_3 : Hid (u3.ownsRow 0 26 4 (.slice (some ⟨u2.heap.size, 0, none⟩) f0.length f0.length) f0.length (flatBx f0)) := Lib.hid hr3
  clear hr3
  go_wp2_with fail
  refine (toStrOwn_any s1 A1 c1 _ (HS1.out.below A_3.out (Nat.le_refl _)) hn1).mono ?_
  rintro e u4 ⟨rfl, hb4, hr4⟩
  have hB4 : u3.heap.size < u4.heap.size := row_lt hr4
  have A_4 : Hid (Below w.heap.size w u4) := Lib.hid ((A_3.out).trans (Below.mono hb4 (A_3.out).size))
  have Z0_4 : Hid (u4.ownsRow 0 26 4 (.slice (some ⟨u2.heap.size, 0, none⟩) f0.length f0.length) f0.length (flatBx f0)) := Lib.hid (own_below Z0_3.out hb4)
  clear A_3 Z0_3
  clear hb4
  have Z1_4 : Hid (u4.ownsRow 0 9 1 (.slice (some ⟨u3.heap.size, 0, none⟩) s1.length s1.length) s1.length (strs s1)) := Lib.hid hr4
  clear hr4
  -- S
  go_wp2_with fail
  refine (specPutTypes_any f0 _ _ s1 _ _ _ (own_in_bx Z0_4.out) hn0 HO0.out (Nat.le_refl _) (own_in_s Z1_4.out) HO1.out hn1).mono ?_
  intro e u5 hto
  obtain ⟨vS, rfl, hb5, hoS⟩ := hto
  obtain ⟨AS, cS, rfl⟩ := own_form_bx hoS
  have hszS : u4.heap.size ≤ u5.heap.size := hb5.size
  have ltS : Hid (∀ k, (Value.slice AS ((mvR f0 s1 1).getD []).length cS).ownBlock = some k → k < u5.heap.size) := Lib.hid (own_bound hoS)
  have A_5 : Hid (Below w.heap.size w u5) := Lib.hid ((A_4.out).trans (Below.mono hb5 (A_4.out).size))
  have Z0_5 : Hid (u5.ownsRow 0 26 4 (.slice (some ⟨u2.heap.size, 0, none⟩) f0.length f0.length) f0.length (flatBx f0)) := Lib.hid (own_below Z0_4.out hb5)
  have Z1_5 : Hid (u5.ownsRow 0 9 1 (.slice (some ⟨u3.heap.size, 0, none⟩) s1.length s1.length) s1.length (strs s1)) := Lib.hid (own_below Z1_4.out hb5)
  clear A_4 Z0_4 Z1_4
  clear hb5
  have hwle0 : Hid (w.heap.size ≤ u5.heap.size) := Lib.hid A_5.out.size
  have OS_5 : Hid (u5.ownsRow 0 26 4 (.slice AS ((mvR f0 s1 1).getD []).length cS) ((mvR f0 s1 1).getD []).length (flatBx ((mvR f0 s1 1).getD []))) := Lib.hid (own_up hoS)
  clear hoS
  clear Z0_5
  clear Z1_5
  go_wp2_with fail
  refine (toBoxS_any f0 A0 c0 _ (HS0.out.below A_5.out (Nat.le_refl _)) hn0).mono ?_
  rintro e u6 ⟨rfl, hb6, hr6⟩
  have hB6 : u5.heap.size < u6.heap.size := row_lt hr6
  have A_6 : Hid (Below w.heap.size w u6) := Lib.hid ((A_5.out).trans (Below.mono hb6 (A_5.out).size))
  have OS_6 : Hid (u6.ownsRow 0 26 4 (.slice AS ((mvR f0 s1 1).getD []).length cS) ((mvR f0 s1 1).getD []).length (flatBx ((mvR f0 s1 1).getD []))) := Lib.hid (own_below OS_5.out hb6)
  clear A_5 OS_5
  clear hb6
  have X0_6 : Hid (u6.ownsRow 0 26 4 (.slice (some ⟨u5.heap.size, 0, none⟩) f0.length f0.length) f0.length (flatBx f0)) := Lib.hid hr6
  clear hr6
  go_wp2_with fail
  refine (toStrOwn_any s1 A1 c1 _ (HS1.out.below A_6.out (Nat.le_refl _)) hn1).mono ?_
  rintro e u7 ⟨rfl, hb7, hr7⟩
  have hB7 : u6.heap.size < u7.heap.size := row_lt hr7
  have A_7 : Hid (Below w.heap.size w u7) := Lib.hid ((A_6.out).trans (Below.mono hb7 (A_6.out).size))
  have OS_7 : Hid (u7.ownsRow 0 26 4 (.slice AS ((mvR f0 s1 1).getD []).length cS) ((mvR f0 s1 1).getD []).length (flatBx ((mvR f0 s1 1).getD []))) := Lib.hid (own_below OS_6.out hb7)
  have X0_7 : Hid (u7.ownsRow 0 26 4 (.slice (some ⟨u5.heap.size, 0, none⟩) f0.length f0.length) f0.length (flatBx f0)) := Lib.hid (own_below X0_6.out hb7)
  clear A_6 OS_6 X0_6
  clear hb7
  have X1_7 : Hid (u7.ownsRow 0 9 1 (.slice (some ⟨u6.heap.size, 0, none⟩) s1.length s1.length) s1.length (strs s1)) := Lib.hid hr7
  clear hr7
  -- G
  go_wp2_with fail
  refine (implPutTypes_any f0 _ _ s1 _ _ _ (own_in_bx X0_7.out) hn0 HO0.out (Nat.le_refl _) (own_in_s X1_7.out) HO1.out hn1).mono ?_
  intro e u8 hto
  obtain ⟨vG, rfl, hb8, hoG⟩ := hto
  obtain ⟨AG, cG, rfl⟩ := own_form_bx hoG
  have hszG : u7.heap.size ≤ u8.heap.size := hb8.size
  have frG : Hid (∀ k, (Value.slice AG ((mvR f0 s1 1).getD []).length cG).ownBlock = some k → u7.heap.size ≤ k) := Lib.hid (own_lt hoG)
  have A_8 : Hid (Below w.heap.size w u8) := Lib.hid ((A_7.out).trans (Below.mono hb8 (A_7.out).size))
  have OS_8 : Hid (u8.ownsRow 0 26 4 (.slice AS ((mvR f0 s1 1).getD []).length cS) ((mvR f0 s1 1).getD []).length (flatBx ((mvR f0 s1 1).getD []))) := Lib.hid (own_below OS_7.out hb8)
  have X0_8 : Hid (u8.ownsRow 0 26 4 (.slice (some ⟨u5.heap.size, 0, none⟩) f0.length f0.length) f0.length (flatBx f0)) := Lib.hid (own_below X0_7.out hb8)
  have X1_8 : Hid (u8.ownsRow 0 9 1 (.slice (some ⟨u6.heap.size, 0, none⟩) s1.length s1.length) s1.length (strs s1)) := Lib.hid (own_below X1_7.out hb8)
  clear A_7 OS_7 X0_7 X1_7
  clear hb8
  have OG_8 : Hid (u8.ownsRow 0 26 4 (.slice AG ((mvR f0 s1 1).getD []).length cG) ((mvR f0 s1 1).getD []).length (flatBx ((mvR f0 s1 1).getD []))) := Lib.hid (own_up hoG)
  clear hoG
  have hmx := mvR_short f0 s1 1
  have HTO : Hid (∀ W B0 B1, BxsIn W B0 f0 → StrsIn W B1 s1 → Calls Try.prog 43 #[.slice B0 f0.length f0.length, .slice B1 s1.length s1.length] W fun e W' => ∃ v, e = .returned (.tuple #[v, .bool (mvR f0 s1 1).isSome]) ∧ Below W.heap.size W W' ∧ W'.ownsRow W.heap.size 26 4 v ((mvR f0 s1 1).getD []).length (flatBx ((mvR f0 s1 1).getD []))) := Lib.hid (fun W B0 B1 h0 h1 => implPutTypes_any f0 B0 f0.length s1 B1 s1.length W h0 hn0 HO0.out (Nat.le_refl _) h1 HO1.out hn1)
  generalize (mvR f0 s1 1).isSome = b at *
  generalize (mvR f0 s1 1).getD [] = L at *
  have hbb : (b != b) = false := by simp
  have hmx2 : L.length ≤ maxLen := by unfold maxLen; omega
  go_wp2_with fail
  refine (eqBoxS_any L L _ _ _ _ _ (own_in_bx OG_8.out) (own_in_bx OS_8.out) hmx2 hmx2).mono ?_
  rintro e u9 ⟨rfl, hb9⟩
  rw [show decide (L = L) = true from decide_eq_true rfl]
  have A_9 : Hid (Below w.heap.size w u9) := Lib.hid ((A_8.out).trans (Below.mono hb9 (A_8.out).size))
  have OS_9 : Hid (u9.ownsRow 0 26 4 (.slice AS L.length cS) L.length (flatBx L)) := Lib.hid (own_below OS_8.out hb9)
  have X0_9 : Hid (u9.ownsRow 0 26 4 (.slice (some ⟨u5.heap.size, 0, none⟩) f0.length f0.length) f0.length (flatBx f0)) := Lib.hid (own_below X0_8.out hb9)
  have X1_9 : Hid (u9.ownsRow 0 9 1 (.slice (some ⟨u6.heap.size, 0, none⟩) s1.length s1.length) s1.length (strs s1)) := Lib.hid (own_below X1_8.out hb9)
  have OG_9 : Hid (u9.ownsRow 0 26 4 (.slice AG L.length cG) L.length (flatBx L)) := Lib.hid (own_below OG_8.out hb9)
  clear A_8 OS_8 X0_8 X1_8 OG_8
  clear hb9
  -- argument 0 is as it was
  go_wp2_with fail
  refine (toBoxS_any f0 A0 c0 _ (HS0.out.below A_9.out (Nat.le_refl _)) hn0).mono ?_
  rintro e u10 ⟨rfl, hb10, hr10⟩
  have A_10 : Hid (Below w.heap.size w u10) := Lib.hid ((A_9.out).trans (Below.mono hb10 (A_9.out).size))
  have OS_10 : Hid (u10.ownsRow 0 26 4 (.slice AS L.length cS) L.length (flatBx L)) := Lib.hid (own_below OS_9.out hb10)
  have X0_10 : Hid (u10.ownsRow 0 26 4 (.slice (some ⟨u5.heap.size, 0, none⟩) f0.length f0.length) f0.length (flatBx f0)) := Lib.hid (own_below X0_9.out hb10)
  have X1_10 : Hid (u10.ownsRow 0 9 1 (.slice (some ⟨u6.heap.size, 0, none⟩) s1.length s1.length) s1.length (strs s1)) := Lib.hid (own_below X1_9.out hb10)
  have OG_10 : Hid (u10.ownsRow 0 26 4 (.slice AG L.length cG) L.length (flatBx L)) := Lib.hid (own_below OG_9.out hb10)
  clear A_9 OS_9 X0_9 X1_9 OG_9
  clear hb10
  go_wp2_with fail
  refine (eqBoxS_any f0 f0 _ _ _ _ _ (own_in_bx X0_10.out) (own_in_bx hr10) (by unfold maxLen; omega) (by unfold maxLen; omega)).mono ?_
  rintro e u11 ⟨rfl, hb11⟩
  rw [show decide (f0 = f0) = true from decide_eq_true rfl]
  clear hr10
  have A_11 : Hid (Below w.heap.size w u11) := Lib.hid ((A_10.out).trans (Below.mono hb11 (A_10.out).size))
  have OS_11 : Hid (u11.ownsRow 0 26 4 (.slice AS L.length cS) L.length (flatBx L)) := Lib.hid (own_below OS_10.out hb11)
  have X0_11 : Hid (u11.ownsRow 0 26 4 (.slice (some ⟨u5.heap.size, 0, none⟩) f0.length f0.length) f0.length (flatBx f0)) := Lib.hid (own_below X0_10.out hb11)
  have X1_11 : Hid (u11.ownsRow 0 9 1 (.slice (some ⟨u6.heap.size, 0, none⟩) s1.length s1.length) s1.length (strs s1)) := Lib.hid (own_below X1_10.out hb11)
  have OG_11 : Hid (u11.ownsRow 0 26 4 (.slice AG L.length cG) L.length (flatBx L)) := Lib.hid (own_below OG_10.out hb11)
  clear A_10 OS_10 X0_10 X1_10 OG_10
  clear hb11
  -- argument 1 is as it was
  go_wp2_with fail
  refine (toStrOwn_any s1 A1 c1 _ (HS1.out.below A_11.out (Nat.le_refl _)) hn1).mono ?_
  rintro e u12 ⟨rfl, hb12, hr12⟩
  have A_12 : Hid (Below w.heap.size w u12) := Lib.hid ((A_11.out).trans (Below.mono hb12 (A_11.out).size))
  have OS_12 : Hid (u12.ownsRow 0 26 4 (.slice AS L.length cS) L.length (flatBx L)) := Lib.hid (own_below OS_11.out hb12)
  have X0_12 : Hid (u12.ownsRow 0 26 4 (.slice (some ⟨u5.heap.size, 0, none⟩) f0.length f0.length) f0.length (flatBx f0)) := Lib.hid (own_below X0_11.out hb12)
  have X1_12 : Hid (u12.ownsRow 0 9 1 (.slice (some ⟨u6.heap.size, 0, none⟩) s1.length s1.length) s1.length (strs s1)) := Lib.hid (own_below X1_11.out hb12)
  have OG_12 : Hid (u12.ownsRow 0 26 4 (.slice AG L.length cG) L.length (flatBx L)) := Lib.hid (own_below OG_11.out hb12)
  clear A_11 OS_11 X0_11 X1_11 OG_11
  clear hb12
  go_wp2_with fail
  refine (eqStringS_any s1 s1 _ _ _ _ _ (own_in_s X1_12.out) (own_in_s hr12) (by unfold maxLen; omega) (by unfold maxLen; omega)).mono ?_
  rintro e u13 ⟨rfl, hb13⟩
  rw [show decide (s1 = s1) = true from decide_eq_true rfl]
  clear hr12
  have A_13 : Hid (Below w.heap.size w u13) := Lib.hid ((A_12.out).trans (Below.mono hb13 (A_12.out).size))
  have OS_13 : Hid (u13.ownsRow 0 26 4 (.slice AS L.length cS) L.length (flatBx L)) := Lib.hid (own_below OS_12.out hb13)
  have X0_13 : Hid (u13.ownsRow 0 26 4 (.slice (some ⟨u5.heap.size, 0, none⟩) f0.length f0.length) f0.length (flatBx f0)) := Lib.hid (own_below X0_12.out hb13)
  have X1_13 : Hid (u13.ownsRow 0 9 1 (.slice (some ⟨u6.heap.size, 0, none⟩) s1.length s1.length) s1.length (strs s1)) := Lib.hid (own_below X1_12.out hb13)
  have OG_13 : Hid (u13.ownsRow 0 26 4 (.slice AG L.length cG) L.length (flatBx L)) := Lib.hid (own_below OG_12.out hb13)
  clear A_12 OS_12 X0_12 X1_12 OG_12
  clear hb13
  go_wp2_with fail
  refine (markBoxS_any 1 f0.length 0 _ _ _ X0_13.out (by omega) (by omega)).mono ?_
  rintro e u14 ⟨rfl, hg14, _⟩
  clear X0_13
  have hwle : w.heap.size ≤ u5.heap.size := hwle0.out
  have A_14 : Hid (Below w.heap.size w u14) := Lib.hid ((A_13.out).grown hg14 (A_13.out).size (fun k hk => by have e1 : u5.heap.size = k := Option.some.inj hk; omega))
  have OS_14 : Hid (u14.ownsRow 0 26 4 (.slice AS L.length cS) L.length (flatBx L)) := Lib.hid (own_grown OS_13.out hg14 (fun k hk e => by have e1 : u5.heap.size = k := Option.some.inj e; have e2 := ltS.out k hk; omega))
  have X1_14 : Hid (u14.ownsRow 0 9 1 (.slice (some ⟨u6.heap.size, 0, none⟩) s1.length s1.length) s1.length (strs s1)) := Lib.hid (own_grown X1_13.out hg14 (fun k hk e => by have e1 : u5.heap.size = k := Option.some.inj e; have e2 : u6.heap.size = k := Option.some.inj hk; omega))
  have OG_14 : Hid (u14.ownsRow 0 26 4 (.slice AG L.length cG) L.length (flatBx L)) := Lib.hid (own_grown OG_13.out hg14 (fun k hk e => by have e1 : u5.heap.size = k := Option.some.inj e; have e2 := frG.out k hk; omega))
  clear A_13 OS_13 X1_13 OG_13
  clear hg14
  obtain ⟨k0, hk0⟩ : ∃ k : Nat, k = (1 + 4 * f0.length) := ⟨_, rfl⟩
  rw [← hk0]
  have hkb0 : 1 ≤ k0 ∧ k0 ≤ 1 + 4 * 1048576 := by omega
  clear hk0
  obtain ⟨hka0, hkc0⟩ := hkb0
  go_wp2_with fail
  refine (markStringS_any k0 s1.length 0 _ _ _ X1_14.out (by omega) (by omega)).mono ?_
  rintro e u15 ⟨rfl, hg15, _⟩
  clear X1_14
  have A_15 : Hid (Below w.heap.size w u15) := Lib.hid ((A_14.out).grown hg15 (A_14.out).size (fun k hk => by have e1 : u6.heap.size = k := Option.some.inj hk; omega))
  have OS_15 : Hid (u15.ownsRow 0 26 4 (.slice AS L.length cS) L.length (flatBx L)) := Lib.hid (own_grown OS_14.out hg15 (fun k hk e => by have e1 : u6.heap.size = k := Option.some.inj e; have e2 := ltS.out k hk; omega))
  have OG_15 : Hid (u15.ownsRow 0 26 4 (.slice AG L.length cG) L.length (flatBx L)) := Lib.hid (own_grown OG_14.out hg15 (fun k hk e => by have e1 : u6.heap.size = k := Option.some.inj e; have e2 := frG.out k hk; omega))
  clear A_14 OS_14 OG_14
  clear hg15
  obtain ⟨k1, hk1⟩ : ∃ k : Nat, k = (k0 + s1.length) := ⟨_, rfl⟩
  rw [← hk1]
  have hkb1 : 1 ≤ k1 ∧ k1 ≤ 1 + 5 * 1048576 := by omega
  clear hk1
  obtain ⟨hka1, hkc1⟩ := hkb1
  have hk0 : ¬ ((k1 : Nat) : Int) < 0 := by omega
  go_wp2_with fail
  refine (eqBoxS_any L L _ _ _ _ _ (own_in_bx OG_15.out) (own_in_bx OS_15.out) hmx2 hmx2).mono ?_
  rintro e u16 ⟨rfl, hb16⟩
  rw [show decide (L = L) = true from decide_eq_true rfl]
  have A_16 : Hid (Below w.heap.size w u16) := Lib.hid ((A_15.out).trans (Below.mono hb16 (A_15.out).size))
  have OS_16 : Hid (u16.ownsRow 0 26 4 (.slice AS L.length cS) L.length (flatBx L)) := Lib.hid (own_below OS_15.out hb16)
  have OG_16 : Hid (u16.ownsRow 0 26 4 (.slice AG L.length cG) L.length (flatBx L)) := Lib.hid (own_below OG_15.out hb16)
  clear A_15 OS_15 OG_15
  clear hb16
  go_wp2_with fail
  refine (markBoxS_any 1 L.length 0 _ _ _ OG_16.out (by omega) (by omega)).mono ?_
  rintro e u17 ⟨rfl, hg17, om⟩
  have hne : ∀ k, (Value.slice AS L.length cS).ownBlock = some k → (Value.slice AG L.length cG).ownBlock ≠ some k := fun k h1 h2 => by have e1 := ltS.out k h1; have e2 := frG.out k h2; omega
  clear OG_16
  have A_17 : Hid (Below w.heap.size w u17) := Lib.hid ((A_16.out).grown hg17 (A_16.out).size (fun k hk => by have e1 := frG.out k hk; omega))
  have OS_17 : Hid (u17.ownsRow 0 26 4 (.slice AS L.length cS) L.length (flatBx L)) := Lib.hid (own_grown OS_16.out hg17 hne)
  clear A_16 OS_16
  have OM_17 : Hid (u17.ownsRow 0 26 4 (.slice AG L.length cG) L.length (flatBx (markBx 1 L.length))) := Lib.hid om
  obtain ⟨km, hkm⟩ : ∃ km : Nat, km = 1 + 4 * L.length := ⟨_, rfl⟩
  rw [← hkm]
  have hkm2 : km ≤ 16777216 := by omega
  have HKM := Lib.hid hkm; clear hkm
  have hqm : ((km : Int) != (km : Int)) = false := by simp
  have hqz : ¬ (km : Int) < 0 := by omega
  clear hg17 om hne
  go_wp2_with fail
  refine (heldBoxS_any 1 L.length _ _ _ (own_in_bx OM_17.out) (by omega) (by have := HKM.out; omega)).mono ?_
  rintro e u18 ⟨rfl, hb18⟩
  rw [← HKM.out]
  have A_18 : Hid (Below w.heap.size w u18) := Lib.hid ((A_17.out).trans (Below.mono hb18 (A_17.out).size))
  have OS_18 : Hid (u18.ownsRow 0 26 4 (.slice AS L.length cS) L.length (flatBx L)) := Lib.hid (own_below OS_17.out hb18)
  have OM_18 : Hid (u18.ownsRow 0 26 4 (.slice AG L.length cG) L.length (flatBx (markBx 1 L.length))) := Lib.hid (own_below OM_17.out hb18)
  clear A_17 OS_17 OM_17
  clear hb18
  -- another call
  go_wp2_with fail
  refine (toBoxS_any f0 A0 c0 _ (HS0.out.below A_18.out (Nat.le_refl _)) hn0).mono ?_
  rintro e u19 ⟨rfl, hb19, hr19⟩
  have hB19 : u18.heap.size < u19.heap.size := row_lt hr19
  have A_19 : Hid (Below w.heap.size w u19) := Lib.hid ((A_18.out).trans (Below.mono hb19 (A_18.out).size))
  have OS_19 : Hid (u19.ownsRow 0 26 4 (.slice AS L.length cS) L.length (flatBx L)) := Lib.hid (own_below OS_18.out hb19)
  have OM_19 : Hid (u19.ownsRow 0 26 4 (.slice AG L.length cG) L.length (flatBx (markBx 1 L.length))) := Lib.hid (own_below OM_18.out hb19)
  clear A_18 OS_18 OM_18
  clear hb19
  have Y0_19 : Hid (u19.ownsRow 0 26 4 (.slice (some ⟨u18.heap.size, 0, none⟩) f0.length f0.length) f0.length (flatBx f0)) := Lib.hid hr19
  clear hr19
  go_wp2_with fail
  refine (toStrOwn_any s1 A1 c1 _ (HS1.out.below A_19.out (Nat.le_refl _)) hn1).mono ?_
  rintro e u20 ⟨rfl, hb20, hr20⟩
  have hB20 : u19.heap.size < u20.heap.size := row_lt hr20
  have A_20 : Hid (Below w.heap.size w u20) := Lib.hid ((A_19.out).trans (Below.mono hb20 (A_19.out).size))
  have OS_20 : Hid (u20.ownsRow 0 26 4 (.slice AS L.length cS) L.length (flatBx L)) := Lib.hid (own_below OS_19.out hb20)
  have OM_20 : Hid (u20.ownsRow 0 26 4 (.slice AG L.length cG) L.length (flatBx (markBx 1 L.length))) := Lib.hid (own_below OM_19.out hb20)
  have Y0_20 : Hid (u20.ownsRow 0 26 4 (.slice (some ⟨u18.heap.size, 0, none⟩) f0.length f0.length) f0.length (flatBx f0)) := Lib.hid (own_below Y0_19.out hb20)
  clear A_19 OS_19 OM_19 Y0_19
  clear hb20
  have Y1_20 : Hid (u20.ownsRow 0 9 1 (.slice (some ⟨u19.heap.size, 0, none⟩) s1.length s1.length) s1.length (strs s1)) := Lib.hid hr20
  clear hr20
  go_wp2_with fail
  refine (HTO.out _ _ _ (own_in_bx Y0_20.out) (own_in_s Y1_20.out)).mono ?_
  intro e u21 hto
  obtain ⟨vH, rfl, hb21, hoH⟩ := hto
  obtain ⟨AH, cH, rfl⟩ := own_form_bx hoH
  have A_21 : Hid (Below w.heap.size w u21) := Lib.hid ((A_20.out).trans (Below.mono hb21 (A_20.out).size))
  have OS_21 : Hid (u21.ownsRow 0 26 4 (.slice AS L.length cS) L.length (flatBx L)) := Lib.hid (own_below OS_20.out hb21)
  have OM_21 : Hid (u21.ownsRow 0 26 4 (.slice AG L.length cG) L.length (flatBx (markBx 1 L.length))) := Lib.hid (own_below OM_20.out hb21)
  have Y0_21 : Hid (u21.ownsRow 0 26 4 (.slice (some ⟨u18.heap.size, 0, none⟩) f0.length f0.length) f0.length (flatBx f0)) := Lib.hid (own_below Y0_20.out hb21)
  have Y1_21 : Hid (u21.ownsRow 0 9 1 (.slice (some ⟨u19.heap.size, 0, none⟩) s1.length s1.length) s1.length (strs s1)) := Lib.hid (own_below Y1_20.out hb21)
  clear A_20 OS_20 OM_20 Y0_20 Y1_20
  clear hb21
  clear Y0_21
  clear Y1_21
  have OH_21 : Hid (u21.ownsRow 0 26 4 (.slice AH L.length cH) L.length (flatBx L)) := Lib.hid (own_up hoH)
  clear hoH
  go_wp2_with fail
  refine (eqBoxS_any L L _ _ _ _ _ (own_in_bx OH_21.out) (own_in_bx OS_21.out) hmx2 hmx2).mono ?_
  rintro e u22 ⟨rfl, hb22⟩
  rw [show decide (L = L) = true from decide_eq_true rfl]
  have A_22 : Hid (Below w.heap.size w u22) := Lib.hid ((A_21.out).trans (Below.mono hb22 (A_21.out).size))
  have OS_22 : Hid (u22.ownsRow 0 26 4 (.slice AS L.length cS) L.length (flatBx L)) := Lib.hid (own_below OS_21.out hb22)
  have OM_22 : Hid (u22.ownsRow 0 26 4 (.slice AG L.length cG) L.length (flatBx (markBx 1 L.length))) := Lib.hid (own_below OM_21.out hb22)
  have OH_22 : Hid (u22.ownsRow 0 26 4 (.slice AH L.length cH) L.length (flatBx L)) := Lib.hid (own_below OH_21.out hb22)
  clear A_21 OS_21 OM_21 OH_21
  clear hb22
  go_wp2_with fail
  refine (heldBoxS_any 1 L.length _ _ _ (own_in_bx OM_22.out) (by omega) (by have := HKM.out; omega)).mono ?_
  rintro e u23 ⟨rfl, hb23⟩
  rw [← HKM.out]
  have A_23 : Hid (Below w.heap.size w u23) := Lib.hid ((A_22.out).trans (Below.mono hb23 (A_22.out).size))
  have OS_23 : Hid (u23.ownsRow 0 26 4 (.slice AS L.length cS) L.length (flatBx L)) := Lib.hid (own_below OS_22.out hb23)
  have OM_23 : Hid (u23.ownsRow 0 26 4 (.slice AG L.length cG) L.length (flatBx (markBx 1 L.length))) := Lib.hid (own_below OM_22.out hb23)
  have OH_23 : Hid (u23.ownsRow 0 26 4 (.slice AH L.length cH) L.length (flatBx L)) := Lib.hid (own_below OH_22.out hb23)
  clear A_22 OS_22 OM_22 OH_22
  clear hb23
  go_wp2
  go_ret
  exact ⟨rfl, A_23.out⟩

set_option maxRecDepth 100000 in
theorem lifted (os : Os) (started : os.Started) (H : Type) (enc : TypeId × Value → H) :
    ReturnsInHanded {} Try.checked os 11 .any (Rows.fnExactPutTypesSpec.pre6 enc Try.prog Try.f11 Rows.fnExactPutTypesRow.domain false) (Rows.fnExactPutTypesSpec.post enc Try.prog Try.f11 false true false false) := by
  refine returnsInHanded_of_change (C := Try.checked) own started (by kernel_rfl) Try.func11
    (ChangeSpec.witness6 (enc := enc) (C := Try.checked) false ⟨#[], #[.slice none 0 0, .slice none 0 0], []⟩ 8 (by kernel_rfl) (by kernel_rfl) (by kernel_rfl) (by kernel_rfl)) ?_
  intro W base args ds gs before hval0 hW hcnd _
  have hval : ∀ (j : Nat) t v, Try.f11.params[j]? = some t → args[j]? = some v → Value.okWide Try.prog W .any base t v := hval0
  have hW' := hW
  obtain ⟨p, q, hA0, hV, rfl, hfz, hnd⟩ := hW
  have hA : DataW.TrodAll enc Try.prog W 0 (fun _ => true) true Try.f11.params.toList args.toList ds p := hA0
  rw [Try.params11] at hA hval
  obtain ⟨v0, vs0, d0, ds0, p0, q0, hargs, rfl, rfl, h0, r0⟩ := trodAll_cons hA
  obtain ⟨v1, vs1, d1, ds1, p1, q1, rfl, rfl, rfl, h1, r1⟩ := trodAll_cons r0
  obtain ⟨rfl, rfl, rfl⟩ := trodAll_nil r1
  obtain rfl : args = #[v0, v1] := by cases args; simp_all
  obtain ⟨rfl, rfl⟩ := trodVars_none hV
  have k0 := h0
  have lt0 : ∀ x ∈ p0, x.block < W.heap.size := by obtain ⟨m, hm⟩ := k0; exact DataW.trod_lt m _ _ _ hm
  have k1 := h1
  have lt1 : ∀ x ∈ p1, x.block < W.heap.size := by obtain ⟨m, hm⟩ := k1; exact DataW.trod_lt m _ _ _ hm
  obtain ⟨A0, f0, c0, rfl, hs0, ho0, hl0⟩ := open_bxs (hval 0 29 v0 rfl rfl) h0
  obtain ⟨A1, f1, c1, rfl, hs1, ho1, hl1⟩ := open_strs (hval 1 39 v1 rfl rfl) h1
  clear hA0 hval0
  refine (walk A0 f0 c0 A1 f1 c1 W hs0 ho0 hl0 hs1 ho1 hl1).mono fun e W' ⟨he, bel⟩ => ?_
  subst he
  exact ⟨_, rfl, _, _, _, [], _, [], hW', trodAll_mk1 (shut_bool Try.underlying4 _), (trodAll_cons_mk (Below.trod laidOut (by kernel_rfl) (of_decide_eq_true (by kernel_rfl)) k0 bel lt0) (trodAll_cons_mk (Below.trod laidOut (by kernel_rfl) (of_decide_eq_true (by kernel_rfl)) k1 bel lt1) trodAll_mk0)), rfl, bel.frame _, fun h => by cases h⟩

theorem over : Rows.fnExactPutTypesRow.holds Try.pinned (OpenSpec.ofChange Rows.fnExactPutTypesSpec) :=
  OpenClaim.holds_of_wide 11 Try.f11 rfl rfl rfl rfl rfl rfl rfl ⟨rfl, rfl, rfl, rfl, rfl⟩ rfl rfl rfl rfl rfl (by kernel_rfl) Try.func11 (by kernel_rfl)
    (of_decide_eq_true (by kernel_rfl)) (by unfold Func.isWrapper; first | (rw [if_pos (by decide +kernel)]; kernel_rfl) | (rw [if_neg (by decide +kernel)]; exact ⟨rfl, rfl⟩))
    (fun os started H enc _ => lifted os started H enc)

theorem proved : Rows.FnExactPutTypesSaid := over
end Go.Proofs.Ytllafkeheppkjaa.fnExactPutTypes
