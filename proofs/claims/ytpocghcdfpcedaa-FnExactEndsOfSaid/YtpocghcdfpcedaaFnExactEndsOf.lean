/-
  FnExactEndsOf: for every input (a machine, a slice of castings, a slice of ints) the law returns true, and what it was given reads as before. Conditions: none beyond the given statement's own.
-/
import Derived.Test.YtpocghcdfpcedaaRows
import Derived.Test.YtpocghcdfpcedaaKh
import Derived.Test.YtpocghcdfpcedaaKr
import Derived.Test.YtpocghcdfpcedaaOpenKc
import Derived.Test.YtpocghcdfpcedaaOpenKm
import Derived.Test.YtpocghcdfpcedaaOpenIz
import Derived.ProofKit
import Derived.OpenShut
import Derived.ShutString
import Derived.ChangeOld
import Derived.Lib.SmallJoins
namespace Go.Proofs.Ytpocghcdfpcedaa.fnExactEndsOf
open Go.ChangeShapes Go.WideShapes Go.ChangeAt Go.RowKit Go.Joins
open Go.ChangeMaps (open_string shut_string)
set_option linter.unusedVariables false

theorem own : ownKnob Try.prog.godebug = none := by kernel_rfl
theorem laidOut : laidOutB Try.prog = true := by kernel_rfl

set_option maxRecDepth 100000 in
set_option maxHeartbeats 2000000 in
theorem walk (m0 : Mc) (A1 : Option Addr) (f1 : List Ca) (c1 : Nat) (A2 : Option Addr) (l2 : List Int) (c2 : Nat) (w : World) (hs1 : CasIn w A1 f1) (hl1 : f1.length ≤ maxLen) (hs2 : IntsIn w A2 l2) (hl2 : l2.length ≤ maxLen) :
    Calls Try.prog 10 #[.agg #[.int .i64 m0.bod, .int .i64 m0.hou, .int .i64 m0.cha], .slice A1 f1.length c1, .slice A2 l2.length c2] w fun e w' => e = .returned (.bool true) ∧ Below w.heap.size w w' := by
  have HS1 := Lib.hid hs1; clear hs1
  unfold maxLen at hl1
  have HS2 := Lib.hid hs2; clear hs2
  unfold maxLen at hl2
  obtain ⟨w0, hw0⟩ : ∃ w0 : World, w0 = (w.alloc (.cells #[.int .i64 m0.bod, .int .i64 m0.hou, .int .i64 m0.cha] 30)) := ⟨_, rfl⟩
  have hwz : w0.heap.size = w.heap.size + 1 := by rw [hw0]; simp
  have HWZ := Lib.hid hwz; clear hwz
  have A_0 : Hid (Below w.heap.size w w0) := Lib.hid (show Below _ _ _ by rw [hw0]; exact ((Below.refl _ _).alloc (by simp) _))
  have X0_0 : Hid (McAt w0 (w.heap.size) 30 m0) := Lib.hid (show McAt _ _ _ _ by rw [hw0]; exact (McAt.new _ _ _))
  have HW0 := Lib.hid hw0; clear hw0
  by_cases hlong2 : (1048576 : Int) < l2.length
  · go_enter Try.func10, Try.ntmps10
    go_wp2
    go_ret
    exact ⟨rfl, by first | exact A_0.out | (rw [HW0.out] at A_0; exact A_0.out)⟩
  have hn2 : l2.length ≤ 1048576 := by omega
  obtain ⟨V0, hV0⟩ : ∃ V, V = askB m0 f1 l2 := ⟨_, rfl⟩
  have HV0 := Lib.hid hV0; clear hV0
  have hne0 : (V0 != V0) = false := by simp
  obtain ⟨L, hL⟩ : ∃ L : List Int, L = enV m0 f1 l2 := ⟨_, rfl⟩
  have hmx : L.length ≤ 1048576 := by rw [hL]; exact enV_len hn2
  have HL := Lib.hid hL; clear hL
  have hmx2 : L.length ≤ maxLen := by unfold maxLen; omega
  have HSP : Hid (∀ (W : World) (B1 : Option Addr) (B2 : Option Addr), f1.length ≤ 1048576 → l2.length ≤ 1048576 → CasIn W B1 f1 → IntsIn W B2 l2 → Calls Try.prog 38 #[.agg #[.int .i64 m0.bod, .int .i64 m0.hou, .int .i64 m0.cha], .slice B1 f1.length f1.length, .slice B2 l2.length l2.length] W fun e W' => ∃ v T, e = .returned (.tuple #[v, .bool V0]) ∧ Below W.heap.size W W' ∧ W'.ownsRow W.heap.size T 1 v L.length (intsZ L)) := Lib.hid (by
    rw [HV0.out, HL.out]; exact fun W B1 B2 h1 h2 i1 i2 => specEndsOf_any m0 f1 B1 f1.length l2 B2 l2.length W i1 h1 i2 h2 (Nat.le_refl _))
  have HIM : Hid (∀ (W : World) (B1 : Option Addr) (B2 : Option Addr), f1.length ≤ 1048576 → l2.length ≤ 1048576 → CasIn W B1 f1 → IntsIn W B2 l2 → Calls Try.prog 39 #[.agg #[.int .i64 m0.bod, .int .i64 m0.hou, .int .i64 m0.cha], .slice B1 f1.length f1.length, .slice B2 l2.length l2.length] W fun e W' => ∃ v T, e = .returned (.tuple #[v, .bool V0]) ∧ Below W.heap.size W W' ∧ W'.ownsRow W.heap.size T 1 v L.length (intsZ L)) := Lib.hid (by
    rw [HV0.out, HL.out]; exact fun W B1 B2 h1 h2 i1 i2 => implEndsOf_any m0 f1 B1 f1.length l2 B2 l2.length W i1 h1 i2 h2)
  go_enter Try.func10, Try.ntmps10
  go_wp2_with fail
  rw [← HW0.out]
  refine (szCastingS_any f1 A1 c1 1048576 _ (by unfold maxLen; omega) (by omega) (by omega)).mono ?_
  rintro e w' ⟨rfl, hww⟩
  subst hww
  by_cases hz1 : (1048576 : Int) < (f1.length : Int)
  · rw [if_pos hz1]
    go_wp2
    go_ret
    exact ⟨rfl, A_0.out⟩
  rw [if_neg hz1]
  have hn1 : f1.length ≤ 1048576 := by omega
  have hnn1 : ¬ (1048576 : Int) - (f1.length : Int) < 0 := by omega
  clear hz1
  obtain ⟨q0, q1, q2⟩ := (X0_0.out).cells
  have ql := (X0_0.out).lt
  go_wp2_with fail
  refine (toMachine_any m0 _).mono ?_
  rintro e u1 ⟨rfl, hb1⟩
  clear q0 q1 q2 ql
  have hzhb1 : w0.heap.size ≤ u1.heap.size := hb1.size
  have A_1 : Hid (Below w.heap.size w u1) := Lib.hid ((A_0.out).trans (Below.mono hb1 (A_0.out).size))
  have X0_1 : Hid (McAt u1 (w.heap.size) 30 m0) := Lib.hid ((X0_0.out).next hb1)
  clear A_0 X0_0
  clear hb1
  go_wp2_with fail
  refine (toCaOwn_any f1 A1 c1 _ (HS1.out.below A_1.out (by first | exact Nat.le_refl _)) hn1).mono ?_
  rintro e u2 ⟨rfl, hb2, hr2⟩
  have hB2 : u1.heap.size < u2.heap.size := row_lt hr2
  have A_2 : Hid (Below w.heap.size w u2) := Lib.hid ((A_1.out).trans (Below.mono hb2 (A_1.out).size))
  have X0_2 : Hid (McAt u2 (w.heap.size) 30 m0) := Lib.hid ((X0_1.out).next hb2)
  clear A_1 X0_1
  clear hb2
  have Z1_2 : Hid (u2.ownsRow 0 39 2 (.slice (some ⟨u1.heap.size, 0, none⟩) f1.length f1.length) f1.length (flatCa f1)) := Lib.hid hr2
  clear hr2
  go_wp2_with fail
  refine (toIntOwn_any l2 A2 c2 _ (HS2.out.below A_2.out (by first | exact Nat.le_refl _)) hn2).mono ?_
  rintro e u3 ⟨rfl, hb3, hr3⟩
  have hB3 : u2.heap.size < u3.heap.size := row_lt hr3
  have A_3 : Hid (Below w.heap.size w u3) := Lib.hid ((A_2.out).trans (Below.mono hb3 (A_2.out).size))
  have X0_3 : Hid (McAt u3 (w.heap.size) 30 m0) := Lib.hid ((X0_2.out).next hb3)
  have Z1_3 : Hid (u3.ownsRow 0 39 2 (.slice (some ⟨u1.heap.size, 0, none⟩) f1.length f1.length) f1.length (flatCa f1)) := Lib.hid (own_below Z1_2.out hb3)
  clear A_2 X0_2 Z1_2
  clear hb3
  have Z2_3 : Hid (u3.ownsRow 0 3 1 (.slice (some ⟨u2.heap.size, 0, none⟩) l2.length l2.length) l2.length (intsZ l2)) := Lib.hid hr3
  clear hr3
  go_wp2_with fail
  refine (HSP.out _ _ _ hn1 hn2 (own_in_ca Z1_3.out) (own_in Z2_3.out)).mono ?_
  intro e u4 hto
  obtain ⟨vS, TS, rfl, hb4, hoS⟩ := hto
  obtain ⟨AS, cS, rfl⟩ := own_form hoS
  have hszS : u3.heap.size ≤ u4.heap.size := hb4.size
  have ltS : Hid (∀ k, (Value.slice AS L.length cS).ownBlock = some k → k < u4.heap.size) := Lib.hid (own_bound hoS)
  have A_4 : Hid (Below w.heap.size w u4) := Lib.hid ((A_3.out).trans (Below.mono hb4 (A_3.out).size))
  have X0_4 : Hid (McAt u4 (w.heap.size) 30 m0) := Lib.hid ((X0_3.out).next hb4)
  have Z1_4 : Hid (u4.ownsRow 0 39 2 (.slice (some ⟨u1.heap.size, 0, none⟩) f1.length f1.length) f1.length (flatCa f1)) := Lib.hid (own_below Z1_3.out hb4)
  have Z2_4 : Hid (u4.ownsRow 0 3 1 (.slice (some ⟨u2.heap.size, 0, none⟩) l2.length l2.length) l2.length (intsZ l2)) := Lib.hid (own_below Z2_3.out hb4)
  clear A_3 X0_3 Z1_3 Z2_3
  clear hb4
  have hwle0 : Hid (w0.heap.size ≤ u4.heap.size) := Lib.hid (by have e1 := X0_4.out.lt; have e2 := HWZ.out; omega)
  have OS_4 : Hid (u4.ownsRow 0 TS 1 (.slice AS L.length cS) L.length (intsZ L)) := Lib.hid (own_up hoS)
  clear hoS
  clear Z1_4
  clear Z2_4
  go_wp2_with fail
  refine (toCaOwn_any f1 A1 c1 _ (HS1.out.below A_4.out (by first | exact Nat.le_refl _)) hn1).mono ?_
  rintro e u5 ⟨rfl, hb5, hr5⟩
  have hB5 : u4.heap.size < u5.heap.size := row_lt hr5
  have A_5 : Hid (Below w.heap.size w u5) := Lib.hid ((A_4.out).trans (Below.mono hb5 (A_4.out).size))
  have X0_5 : Hid (McAt u5 (w.heap.size) 30 m0) := Lib.hid ((X0_4.out).next hb5)
  have OS_5 : Hid (u5.ownsRow 0 TS 1 (.slice AS L.length cS) L.length (intsZ L)) := Lib.hid (own_below OS_4.out hb5)
  clear A_4 X0_4 OS_4
  clear hb5
  have X_1_5 : Hid (u5.ownsRow 0 39 2 (.slice (some ⟨u4.heap.size, 0, none⟩) f1.length f1.length) f1.length (flatCa f1)) := Lib.hid hr5
  clear hr5
  go_wp2_with fail
  refine (toIntOwn_any l2 A2 c2 _ (HS2.out.below A_5.out (by first | exact Nat.le_refl _)) hn2).mono ?_
  rintro e u6 ⟨rfl, hb6, hr6⟩
  have hB6 : u5.heap.size < u6.heap.size := row_lt hr6
  have A_6 : Hid (Below w.heap.size w u6) := Lib.hid ((A_5.out).trans (Below.mono hb6 (A_5.out).size))
  have X0_6 : Hid (McAt u6 (w.heap.size) 30 m0) := Lib.hid ((X0_5.out).next hb6)
  have OS_6 : Hid (u6.ownsRow 0 TS 1 (.slice AS L.length cS) L.length (intsZ L)) := Lib.hid (own_below OS_5.out hb6)
  have X_1_6 : Hid (u6.ownsRow 0 39 2 (.slice (some ⟨u4.heap.size, 0, none⟩) f1.length f1.length) f1.length (flatCa f1)) := Lib.hid (own_below X_1_5.out hb6)
  clear A_5 X0_5 OS_5 X_1_5
  clear hb6
  have X_2_6 : Hid (u6.ownsRow 0 3 1 (.slice (some ⟨u5.heap.size, 0, none⟩) l2.length l2.length) l2.length (intsZ l2)) := Lib.hid hr6
  clear hr6
  obtain ⟨q0, q1, q2⟩ := (X0_6.out).cells
  have ql := (X0_6.out).lt
  go_wp2_with fail
  refine (toMachine_any m0 _).mono ?_
  rintro e u7 ⟨rfl, hb7⟩
  clear q0 q1 q2 ql
  have hzhb7 : u6.heap.size ≤ u7.heap.size := hb7.size
  have A_7 : Hid (Below w.heap.size w u7) := Lib.hid ((A_6.out).trans (Below.mono hb7 (A_6.out).size))
  have X0_7 : Hid (McAt u7 (w.heap.size) 30 m0) := Lib.hid ((X0_6.out).next hb7)
  have OS_7 : Hid (u7.ownsRow 0 TS 1 (.slice AS L.length cS) L.length (intsZ L)) := Lib.hid (own_below OS_6.out hb7)
  have X_1_7 : Hid (u7.ownsRow 0 39 2 (.slice (some ⟨u4.heap.size, 0, none⟩) f1.length f1.length) f1.length (flatCa f1)) := Lib.hid (own_below X_1_6.out hb7)
  have X_2_7 : Hid (u7.ownsRow 0 3 1 (.slice (some ⟨u5.heap.size, 0, none⟩) l2.length l2.length) l2.length (intsZ l2)) := Lib.hid (own_below X_2_6.out hb7)
  clear A_6 X0_6 OS_6 X_1_6 X_2_6
  clear hb7
  go_wp2_with fail
  refine (HIM.out _ _ _ hn1 hn2 (own_in_ca X_1_7.out) (own_in X_2_7.out)).mono ?_
  intro e u8 hto
  obtain ⟨vG, TG, rfl, hb8, hoG⟩ := hto
  obtain ⟨AG, cG, rfl⟩ := own_form hoG
  have hszG : u7.heap.size ≤ u8.heap.size := hb8.size
  have frG : Hid (∀ k, (Value.slice AG L.length cG).ownBlock = some k → u7.heap.size ≤ k) := Lib.hid (own_lt hoG)
  have A_8 : Hid (Below w.heap.size w u8) := Lib.hid ((A_7.out).trans (Below.mono hb8 (A_7.out).size))
  have X0_8 : Hid (McAt u8 (w.heap.size) 30 m0) := Lib.hid ((X0_7.out).next hb8)
  have OS_8 : Hid (u8.ownsRow 0 TS 1 (.slice AS L.length cS) L.length (intsZ L)) := Lib.hid (own_below OS_7.out hb8)
  have X_1_8 : Hid (u8.ownsRow 0 39 2 (.slice (some ⟨u4.heap.size, 0, none⟩) f1.length f1.length) f1.length (flatCa f1)) := Lib.hid (own_below X_1_7.out hb8)
  have X_2_8 : Hid (u8.ownsRow 0 3 1 (.slice (some ⟨u5.heap.size, 0, none⟩) l2.length l2.length) l2.length (intsZ l2)) := Lib.hid (own_below X_2_7.out hb8)
  clear A_7 X0_7 OS_7 X_1_7 X_2_7
  clear hb8
  have OG_8 : Hid (u8.ownsRow 0 TG 1 (.slice AG L.length cG) L.length (intsZ L)) := Lib.hid (own_up hoG)
  clear hoG
  go_wp2_with fail
  refine (eqIntS_any L L _ _ _ _ _ (own_in OG_8.out) (own_in OS_8.out) hmx2 hmx2).mono ?_
  rintro e u9 ⟨rfl, hb9⟩
  rw [show decide (L = L) = true from decide_eq_true rfl]
  have A_9 : Hid (Below w.heap.size w u9) := Lib.hid ((A_8.out).trans (Below.mono hb9 (A_8.out).size))
  have X0_9 : Hid (McAt u9 (w.heap.size) 30 m0) := Lib.hid ((X0_8.out).next hb9)
  have OS_9 : Hid (u9.ownsRow 0 TS 1 (.slice AS L.length cS) L.length (intsZ L)) := Lib.hid (own_below OS_8.out hb9)
  have X_1_9 : Hid (u9.ownsRow 0 39 2 (.slice (some ⟨u4.heap.size, 0, none⟩) f1.length f1.length) f1.length (flatCa f1)) := Lib.hid (own_below X_1_8.out hb9)
  have X_2_9 : Hid (u9.ownsRow 0 3 1 (.slice (some ⟨u5.heap.size, 0, none⟩) l2.length l2.length) l2.length (intsZ l2)) := Lib.hid (own_below X_2_8.out hb9)
  have OG_9 : Hid (u9.ownsRow 0 TG 1 (.slice AG L.length cG) L.length (intsZ L)) := Lib.hid (own_below OG_8.out hb9)
  clear A_8 X0_8 OS_8 X_1_8 X_2_8 OG_8
  clear hb9
  go_wp2_with fail
  refine (toCaOwn_any f1 A1 c1 _ (HS1.out.below A_9.out (by first | exact Nat.le_refl _)) hn1).mono ?_
  rintro e u10 ⟨rfl, hb10, hr10⟩
  have hB10 : u9.heap.size < u10.heap.size := row_lt hr10
  have A_10 : Hid (Below w.heap.size w u10) := Lib.hid ((A_9.out).trans (Below.mono hb10 (A_9.out).size))
  have X0_10 : Hid (McAt u10 (w.heap.size) 30 m0) := Lib.hid ((X0_9.out).next hb10)
  have OS_10 : Hid (u10.ownsRow 0 TS 1 (.slice AS L.length cS) L.length (intsZ L)) := Lib.hid (own_below OS_9.out hb10)
  have X_1_10 : Hid (u10.ownsRow 0 39 2 (.slice (some ⟨u4.heap.size, 0, none⟩) f1.length f1.length) f1.length (flatCa f1)) := Lib.hid (own_below X_1_9.out hb10)
  have X_2_10 : Hid (u10.ownsRow 0 3 1 (.slice (some ⟨u5.heap.size, 0, none⟩) l2.length l2.length) l2.length (intsZ l2)) := Lib.hid (own_below X_2_9.out hb10)
  have OG_10 : Hid (u10.ownsRow 0 TG 1 (.slice AG L.length cG) L.length (intsZ L)) := Lib.hid (own_below OG_9.out hb10)
  clear A_9 X0_9 OS_9 X_1_9 X_2_9 OG_9
  clear hb10
  have W1_10 : Hid (u10.ownsRow 0 39 2 (.slice (some ⟨u9.heap.size, 0, none⟩) f1.length f1.length) f1.length (flatCa f1)) := Lib.hid hr10
  clear hr10
  go_wp2_with fail
  refine (eqCastingS_any f1 f1 _ _ _ _ _ (own_in_ca X_1_10.out) (own_in_ca W1_10.out) (by unfold maxLen; omega) (by unfold maxLen; omega)).mono ?_
  rintro e u11 ⟨rfl, hb11⟩
  rw [show decide (f1 = f1) = true from decide_eq_true rfl]
  clear W1_10
  have A_11 : Hid (Below w.heap.size w u11) := Lib.hid ((A_10.out).trans (Below.mono hb11 (A_10.out).size))
  have X0_11 : Hid (McAt u11 (w.heap.size) 30 m0) := Lib.hid ((X0_10.out).next hb11)
  have OS_11 : Hid (u11.ownsRow 0 TS 1 (.slice AS L.length cS) L.length (intsZ L)) := Lib.hid (own_below OS_10.out hb11)
  have X_1_11 : Hid (u11.ownsRow 0 39 2 (.slice (some ⟨u4.heap.size, 0, none⟩) f1.length f1.length) f1.length (flatCa f1)) := Lib.hid (own_below X_1_10.out hb11)
  have X_2_11 : Hid (u11.ownsRow 0 3 1 (.slice (some ⟨u5.heap.size, 0, none⟩) l2.length l2.length) l2.length (intsZ l2)) := Lib.hid (own_below X_2_10.out hb11)
  have OG_11 : Hid (u11.ownsRow 0 TG 1 (.slice AG L.length cG) L.length (intsZ L)) := Lib.hid (own_below OG_10.out hb11)
  clear A_10 X0_10 OS_10 X_1_10 X_2_10 OG_10
  clear hb11
  go_wp2_with fail
  refine (toIntOwn_any l2 A2 c2 _ (HS2.out.below A_11.out (by first | exact Nat.le_refl _)) hn2).mono ?_
  rintro e u12 ⟨rfl, hb12, hr12⟩
  have hB12 : u11.heap.size < u12.heap.size := row_lt hr12
  have A_12 : Hid (Below w.heap.size w u12) := Lib.hid ((A_11.out).trans (Below.mono hb12 (A_11.out).size))
  have X0_12 : Hid (McAt u12 (w.heap.size) 30 m0) := Lib.hid ((X0_11.out).next hb12)
  have OS_12 : Hid (u12.ownsRow 0 TS 1 (.slice AS L.length cS) L.length (intsZ L)) := Lib.hid (own_below OS_11.out hb12)
  have X_1_12 : Hid (u12.ownsRow 0 39 2 (.slice (some ⟨u4.heap.size, 0, none⟩) f1.length f1.length) f1.length (flatCa f1)) := Lib.hid (own_below X_1_11.out hb12)
  have X_2_12 : Hid (u12.ownsRow 0 3 1 (.slice (some ⟨u5.heap.size, 0, none⟩) l2.length l2.length) l2.length (intsZ l2)) := Lib.hid (own_below X_2_11.out hb12)
  have OG_12 : Hid (u12.ownsRow 0 TG 1 (.slice AG L.length cG) L.length (intsZ L)) := Lib.hid (own_below OG_11.out hb12)
  clear A_11 X0_11 OS_11 X_1_11 X_2_11 OG_11
  clear hb12
  have W2_12 : Hid (u12.ownsRow 0 3 1 (.slice (some ⟨u11.heap.size, 0, none⟩) l2.length l2.length) l2.length (intsZ l2)) := Lib.hid hr12
  clear hr12
  go_wp2_with fail
  refine (eqIntS_any l2 l2 _ _ _ _ _ (own_in X_2_12.out) (own_in W2_12.out) (by unfold maxLen; omega) (by unfold maxLen; omega)).mono ?_
  rintro e u13 ⟨rfl, hb13⟩
  rw [show decide (l2 = l2) = true from decide_eq_true rfl]
  clear W2_12
  have A_13 : Hid (Below w.heap.size w u13) := Lib.hid ((A_12.out).trans (Below.mono hb13 (A_12.out).size))
  have X0_13 : Hid (McAt u13 (w.heap.size) 30 m0) := Lib.hid ((X0_12.out).next hb13)
  have OS_13 : Hid (u13.ownsRow 0 TS 1 (.slice AS L.length cS) L.length (intsZ L)) := Lib.hid (own_below OS_12.out hb13)
  have X_1_13 : Hid (u13.ownsRow 0 39 2 (.slice (some ⟨u4.heap.size, 0, none⟩) f1.length f1.length) f1.length (flatCa f1)) := Lib.hid (own_below X_1_12.out hb13)
  have X_2_13 : Hid (u13.ownsRow 0 3 1 (.slice (some ⟨u5.heap.size, 0, none⟩) l2.length l2.length) l2.length (intsZ l2)) := Lib.hid (own_below X_2_12.out hb13)
  have OG_13 : Hid (u13.ownsRow 0 TG 1 (.slice AG L.length cG) L.length (intsZ L)) := Lib.hid (own_below OG_12.out hb13)
  clear A_12 X0_12 OS_12 X_1_12 X_2_12 OG_12
  clear hb13
  have hwle : w0.heap.size ≤ u4.heap.size := hwle0.out
  have hwz := HWZ.out
  go_wp2_with fail
  refine (markCaOwn_any 1 f1.length 0 _ _ _ X_1_13.out (by omega)).mono ?_
  rintro e u14 ⟨rfl, hg14⟩
  clear X_1_13
  have A_14 : Hid (Below w.heap.size w u14) := Lib.hid ((A_13.out).grown hg14 (A_13.out).size (fun k hk => by have e1 : u4.heap.size = k := Option.some.inj hk; omega))
  have X0_14 : Hid (McAt u14 (w.heap.size) 30 m0) := Lib.hid ((hg14.block _ (X0_13.out).lt (fun h => by have e1 : _ = u4.heap.size := Option.some.inj h; omega)).trans X0_13.out)
  have OS_14 : Hid (u14.ownsRow 0 TS 1 (.slice AS L.length cS) L.length (intsZ L)) := Lib.hid (own_grown OS_13.out hg14 (fun k hk e => by have e1 : u4.heap.size = k := Option.some.inj e; have e2 := ltS.out k hk; omega))
  have X_2_14 : Hid (u14.ownsRow 0 3 1 (.slice (some ⟨u5.heap.size, 0, none⟩) l2.length l2.length) l2.length (intsZ l2)) := Lib.hid (own_grown X_2_13.out hg14 (fun k hk e => by have e1 : u4.heap.size = k := Option.some.inj e; have e2 : u5.heap.size = k := Option.some.inj hk; omega))
  have OG_14 : Hid (u14.ownsRow 0 TG 1 (.slice AG L.length cG) L.length (intsZ L)) := Lib.hid (own_grown OG_13.out hg14 (fun k hk e => by have e1 : u4.heap.size = k := Option.some.inj e; have e2 := frG.out k hk; omega))
  clear A_13 X0_13 OS_13 X_2_13 OG_13
  clear hg14
  obtain ⟨k1, hk1⟩ : ∃ k : Nat, k = (1 + 2 * f1.length) := ⟨_, rfl⟩
  rw [← hk1]
  have hkb1 : 1 ≤ k1 ∧ k1 ≤ 1 + 2 * 1048576 := by omega
  clear hk1
  obtain ⟨hka1, hkc1⟩ := hkb1
  go_wp2_with fail
  refine (markIntS_any ((k1 : Nat) : Int) l2.length 0 _ _ _ X_2_14.out (by omega) (by omega)).mono ?_
  rintro e u15 ⟨rfl, hg15, _⟩
  rw [show (((k1 : Nat) : Int) + (l2.length : Int)) = (((k1 + l2.length) : Nat) : Int) from by omega]
  clear X_2_14
  have A_15 : Hid (Below w.heap.size w u15) := Lib.hid ((A_14.out).grown hg15 (A_14.out).size (fun k hk => by have e1 : u5.heap.size = k := Option.some.inj hk; omega))
  have X0_15 : Hid (McAt u15 (w.heap.size) 30 m0) := Lib.hid ((hg15.block _ (X0_14.out).lt (fun h => by have e1 : _ = u5.heap.size := Option.some.inj h; omega)).trans X0_14.out)
  have OS_15 : Hid (u15.ownsRow 0 TS 1 (.slice AS L.length cS) L.length (intsZ L)) := Lib.hid (own_grown OS_14.out hg15 (fun k hk e => by have e1 : u5.heap.size = k := Option.some.inj e; have e2 := ltS.out k hk; omega))
  have OG_15 : Hid (u15.ownsRow 0 TG 1 (.slice AG L.length cG) L.length (intsZ L)) := Lib.hid (own_grown OG_14.out hg15 (fun k hk e => by have e1 : u5.heap.size = k := Option.some.inj e; have e2 := frG.out k hk; omega))
  clear A_14 X0_14 OS_14 OG_14
  clear hg15
  obtain ⟨k2, hk2⟩ : ∃ k : Nat, k = (k1 + l2.length) := ⟨_, rfl⟩
  rw [← hk2]
  have hkb2 : 1 ≤ k2 ∧ k2 ≤ 1 + 3 * 1048576 := by omega
  clear hk2
  obtain ⟨hka2, hkc2⟩ := hkb2
  have hk0 : ¬ ((k2 : Nat) : Int) < 0 := by omega
  go_wp2_with fail
  refine (eqIntS_any L L _ _ _ _ _ (own_in OG_15.out) (own_in OS_15.out) hmx2 hmx2).mono ?_
  rintro e u16 ⟨rfl, hb16⟩
  rw [show decide (L = L) = true from decide_eq_true rfl]
  have A_16 : Hid (Below w.heap.size w u16) := Lib.hid ((A_15.out).trans (Below.mono hb16 (A_15.out).size))
  have X0_16 : Hid (McAt u16 (w.heap.size) 30 m0) := Lib.hid ((X0_15.out).next hb16)
  have OS_16 : Hid (u16.ownsRow 0 TS 1 (.slice AS L.length cS) L.length (intsZ L)) := Lib.hid (own_below OS_15.out hb16)
  have OG_16 : Hid (u16.ownsRow 0 TG 1 (.slice AG L.length cG) L.length (intsZ L)) := Lib.hid (own_below OG_15.out hb16)
  clear A_15 X0_15 OS_15 OG_15
  clear hb16
  go_wp2_with fail
  refine (markIntSE_any 1 L.length 0 _ _ _ _ OG_16.out (by omega) (by omega)).mono ?_
  rintro e u17 ⟨rfl, hg17, om⟩
  have hne : ∀ k, (Value.slice AS L.length cS).ownBlock = some k → (Value.slice AG L.length cG).ownBlock ≠ some k := fun k h1 h2 => by have e1 := ltS.out k h1; have e2 := frG.out k h2; omega
  clear OG_16
  have A_17 : Hid (Below w.heap.size w u17) := Lib.hid ((A_16.out).grown hg17 (A_16.out).size (fun k hk => by have e1 := frG.out k hk; omega))
  have X0_17 : Hid (McAt u17 (w.heap.size) 30 m0) := Lib.hid ((hg17.block _ (X0_16.out).lt (fun h => by have e1 := frG.out _ h.symm; omega)).trans X0_16.out)
  have OS_17 : Hid (u17.ownsRow 0 TS 1 (.slice AS L.length cS) L.length (intsZ L)) := Lib.hid (own_grown OS_16.out hg17 hne)
  clear A_16 X0_16 OS_16
  have OM_17 : Hid (u17.ownsRow 0 TG 1 (.slice AG L.length cG) L.length (intsZ (marks 1 L.length))) := Lib.hid om
  have hqm : (1 + (L.length : Int) != 1 + (L.length : Int)) = false := by simp
  clear hg17 om hne
  go_wp2_with fail
  refine (heldIntS_any 1 L.length _ _ _ (own_in OM_17.out) (by omega) (by omega)).mono ?_
  rintro e u18 ⟨rfl, hwu18⟩
  subst hwu18
  -- another call
  obtain ⟨q0, q1, q2⟩ := (X0_17.out).cells
  have ql := (X0_17.out).lt
  go_wp2_with fail
  refine (toMachine_any m0 _).mono ?_
  rintro e u19 ⟨rfl, hb19⟩
  clear q0 q1 q2 ql
  have hzhb19 : u17.heap.size ≤ u19.heap.size := hb19.size
  have A_18 : Hid (Below w.heap.size w u19) := Lib.hid ((A_17.out).trans (Below.mono hb19 (A_17.out).size))
  have X0_18 : Hid (McAt u19 (w.heap.size) 30 m0) := Lib.hid ((X0_17.out).next hb19)
  have OS_18 : Hid (u19.ownsRow 0 TS 1 (.slice AS L.length cS) L.length (intsZ L)) := Lib.hid (own_below OS_17.out hb19)
  have OM_18 : Hid (u19.ownsRow 0 TG 1 (.slice AG L.length cG) L.length (intsZ (marks 1 L.length))) := Lib.hid (own_below OM_17.out hb19)
  clear A_17 X0_17 OS_17 OM_17
  clear hb19
  go_wp2_with fail
  refine (toCaOwn_any f1 A1 c1 _ (HS1.out.below A_18.out (by first | exact Nat.le_refl _)) hn1).mono ?_
  rintro e u20 ⟨rfl, hb20, hr20⟩
  have hB20 : u19.heap.size < u20.heap.size := row_lt hr20
  have A_19 : Hid (Below w.heap.size w u20) := Lib.hid ((A_18.out).trans (Below.mono hb20 (A_18.out).size))
  have X0_19 : Hid (McAt u20 (w.heap.size) 30 m0) := Lib.hid ((X0_18.out).next hb20)
  have OS_19 : Hid (u20.ownsRow 0 TS 1 (.slice AS L.length cS) L.length (intsZ L)) := Lib.hid (own_below OS_18.out hb20)
  have OM_19 : Hid (u20.ownsRow 0 TG 1 (.slice AG L.length cG) L.length (intsZ (marks 1 L.length))) := Lib.hid (own_below OM_18.out hb20)
  clear A_18 X0_18 OS_18 OM_18
  clear hb20
  have Y1_19 : Hid (u20.ownsRow 0 39 2 (.slice (some ⟨u19.heap.size, 0, none⟩) f1.length f1.length) f1.length (flatCa f1)) := Lib.hid hr20
  clear hr20
  go_wp2_with fail
  refine (toIntOwn_any l2 A2 c2 _ (HS2.out.below A_19.out (by first | exact Nat.le_refl _)) hn2).mono ?_
  rintro e u21 ⟨rfl, hb21, hr21⟩
  have hB21 : u20.heap.size < u21.heap.size := row_lt hr21
  have A_20 : Hid (Below w.heap.size w u21) := Lib.hid ((A_19.out).trans (Below.mono hb21 (A_19.out).size))
  have X0_20 : Hid (McAt u21 (w.heap.size) 30 m0) := Lib.hid ((X0_19.out).next hb21)
  have OS_20 : Hid (u21.ownsRow 0 TS 1 (.slice AS L.length cS) L.length (intsZ L)) := Lib.hid (own_below OS_19.out hb21)
  have OM_20 : Hid (u21.ownsRow 0 TG 1 (.slice AG L.length cG) L.length (intsZ (marks 1 L.length))) := Lib.hid (own_below OM_19.out hb21)
  have Y1_20 : Hid (u21.ownsRow 0 39 2 (.slice (some ⟨u19.heap.size, 0, none⟩) f1.length f1.length) f1.length (flatCa f1)) := Lib.hid (own_below Y1_19.out hb21)
  clear A_19 X0_19 OS_19 OM_19 Y1_19
  clear hb21
  have Y2_20 : Hid (u21.ownsRow 0 3 1 (.slice (some ⟨u20.heap.size, 0, none⟩) l2.length l2.length) l2.length (intsZ l2)) := Lib.hid hr21
  clear hr21
  go_wp2_with fail
  refine (HIM.out _ _ _ hn1 hn2 (own_in_ca Y1_20.out) (own_in Y2_20.out)).mono ?_
  intro e u22 hto
  obtain ⟨vH, TH, rfl, hb22, hoH⟩ := hto
  obtain ⟨AH, cH, rfl⟩ := own_form hoH
  have hszH : u21.heap.size ≤ u22.heap.size := hb22.size
  have A_21 : Hid (Below w.heap.size w u22) := Lib.hid ((A_20.out).trans (Below.mono hb22 (A_20.out).size))
  have X0_21 : Hid (McAt u22 (w.heap.size) 30 m0) := Lib.hid ((X0_20.out).next hb22)
  have OS_21 : Hid (u22.ownsRow 0 TS 1 (.slice AS L.length cS) L.length (intsZ L)) := Lib.hid (own_below OS_20.out hb22)
  have OM_21 : Hid (u22.ownsRow 0 TG 1 (.slice AG L.length cG) L.length (intsZ (marks 1 L.length))) := Lib.hid (own_below OM_20.out hb22)
  have Y1_21 : Hid (u22.ownsRow 0 39 2 (.slice (some ⟨u19.heap.size, 0, none⟩) f1.length f1.length) f1.length (flatCa f1)) := Lib.hid (own_below Y1_20.out hb22)
  have Y2_21 : Hid (u22.ownsRow 0 3 1 (.slice (some ⟨u20.heap.size, 0, none⟩) l2.length l2.length) l2.length (intsZ l2)) := Lib.hid (own_below Y2_20.out hb22)
  clear A_20 X0_20 OS_20 OM_20 Y1_20 Y2_20
  clear hb22
  have OH_21 : Hid (u22.ownsRow 0 TH 1 (.slice AH L.length cH) L.length (intsZ L)) := Lib.hid (own_up hoH)
  clear hoH
  clear Y1_21
  clear Y2_21
  go_wp2_with fail
  refine (eqIntS_any L L _ _ _ _ _ (own_in OH_21.out) (own_in OS_21.out) hmx2 hmx2).mono ?_
  rintro e u23 ⟨rfl, hb23⟩
  rw [show decide (L = L) = true from decide_eq_true rfl]
  have A_22 : Hid (Below w.heap.size w u23) := Lib.hid ((A_21.out).trans (Below.mono hb23 (A_21.out).size))
  have X0_22 : Hid (McAt u23 (w.heap.size) 30 m0) := Lib.hid ((X0_21.out).next hb23)
  have OS_22 : Hid (u23.ownsRow 0 TS 1 (.slice AS L.length cS) L.length (intsZ L)) := Lib.hid (own_below OS_21.out hb23)
  have OM_22 : Hid (u23.ownsRow 0 TG 1 (.slice AG L.length cG) L.length (intsZ (marks 1 L.length))) := Lib.hid (own_below OM_21.out hb23)
  have OH_22 : Hid (u23.ownsRow 0 TH 1 (.slice AH L.length cH) L.length (intsZ L)) := Lib.hid (own_below OH_21.out hb23)
  clear A_21 X0_21 OS_21 OM_21 OH_21
  clear hb23
  go_wp2_with fail
  refine (heldIntS_any 1 L.length _ _ _ (own_in OM_22.out) (by omega) (by omega)).mono ?_
  rintro e u24 ⟨rfl, hwu24⟩
  subst hwu24
  go_wp2
  go_ret
  exact ⟨rfl, A_22.out⟩

set_option maxRecDepth 100000 in
theorem lifted (os : Os) (started : os.Started) (H : Type) (enc : TypeId × Value → H) :
    ReturnsInHanded {} Try.checked os 10 .any (Rows.fnExactEndsOfSpec.pre6 enc Try.prog Try.f10 Rows.fnExactEndsOfRow.domain false) (Rows.fnExactEndsOfSpec.post enc Try.prog Try.f10 false true false false) := by
  refine returnsInHanded_of_change (C := Try.checked) own started (by kernel_rfl) Try.func10
    (ChangeSpec.witness6 (enc := enc) (C := Try.checked) false ⟨#[], #[.agg #[.int .i64 0, .int .i64 0, .int .i64 0], .slice none 0 0, .slice none 0 0], []⟩ 8 (by kernel_rfl) (by kernel_rfl) (by kernel_rfl) (by kernel_rfl)) ?_
  intro W base args ds gs before hval0 hW hcnd _
  have hval : ∀ (j : Nat) t v, Try.f10.params[j]? = some t → args[j]? = some v → Value.okWide Try.prog W .any base t v := hval0
  have hW' := hW
  obtain ⟨p, q, hA0, hV, rfl, hfz, hnd⟩ := hW
  have hA : DataW.TrodAll enc Try.prog W 0 (fun _ => true) true Try.f10.params.toList args.toList ds p := hA0
  rw [Try.params10] at hA hval
  obtain ⟨v0, vs0, d0, ds0, p0, q0, hargs, rfl, rfl, h0, r0⟩ := trodAll_cons hA
  obtain ⟨v1, vs1, d1, ds1, p1, q1, rfl, rfl, rfl, h1, r1⟩ := trodAll_cons r0
  obtain ⟨v2, vs2, d2, ds2, p2, q2, rfl, rfl, rfl, h2, r2⟩ := trodAll_cons r1
  obtain ⟨rfl, rfl, rfl⟩ := trodAll_nil r2
  obtain rfl : args = #[v0, v1, v2] := by cases args; simp_all
  obtain ⟨rfl, rfl⟩ := trodVars_none hV
  have k0 := h0
  have lt0 : ∀ x ∈ p0, x.block < W.heap.size := by obtain ⟨m, hm⟩ := k0; exact DataW.trod_lt m _ _ _ hm
  have k1 := h1
  have lt1 : ∀ x ∈ p1, x.block < W.heap.size := by obtain ⟨m, hm⟩ := k1; exact DataW.trod_lt m _ _ _ hm
  have k2 := h2
  have lt2 : ∀ x ∈ p2, x.block < W.heap.size := by obtain ⟨m, hm⟩ := k2; exact DataW.trod_lt m _ _ _ hm
  obtain ⟨m0, rfl, wm0⟩ := open_mc (hval 0 30 v0 rfl rfl) h0
  obtain ⟨A1, f1, c1, rfl, hs1, hl1⟩ := open_cas (hval 1 22 v1 rfl rfl) h1
  obtain ⟨A2, f2, c2, rfl, hs2, hl2⟩ := open_intz (hval 2 42 v2 rfl rfl) h2
  clear hA0 hval0
  refine (walk m0 A1 f1 c1 A2 f2 c2 W hs1 hl1 hs2 hl2).mono fun e W' ⟨he, bel⟩ => ?_
  subst he
  exact ⟨_, rfl, _, _, _, [], _, [], hW', trodAll_mk1 (shut_bool Try.underlying4 _), (trodAll_cons_mk (Below.trod laidOut (by kernel_rfl) (of_decide_eq_true (by kernel_rfl)) k0 bel lt0) (trodAll_cons_mk (Below.trod laidOut (by kernel_rfl) (of_decide_eq_true (by kernel_rfl)) k1 bel lt1) (trodAll_cons_mk (Below.trod laidOut (by kernel_rfl) (of_decide_eq_true (by kernel_rfl)) k2 bel lt2) trodAll_mk0))), rfl, bel.frame _, fun h => by cases h⟩

theorem over : Rows.fnExactEndsOfRow.holds Try.pinned (OpenSpec.ofChange Rows.fnExactEndsOfSpec) :=
  OpenClaim.holds_of_wide 10 Try.f10 rfl rfl rfl rfl rfl rfl rfl ⟨rfl, rfl, rfl, rfl, rfl⟩ rfl rfl rfl rfl rfl (by kernel_rfl) Try.func10 (by kernel_rfl)
    (of_decide_eq_true (by kernel_rfl)) (by unfold Func.isWrapper; first | (rw [if_pos (by decide +kernel)]; kernel_rfl) | (rw [if_neg (by decide +kernel)]; exact ⟨rfl, rfl⟩))
    (fun os started H enc _ => lifted os started H enc)

theorem proved : Rows.FnExactEndsOfSaid := over
end Go.Proofs.Ytpocghcdfpcedaa.fnExactEndsOf
