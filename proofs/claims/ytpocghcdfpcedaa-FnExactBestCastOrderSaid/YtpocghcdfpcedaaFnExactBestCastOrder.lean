/-
  FnExactBestCastOrder: for every input (a machine, a slice of castings) the law returns true, and what it was given reads as before. Conditions: none beyond the given statement's own.
-/
import Derived.Test.YtpocghcdfpcedaaRows
import Derived.Test.YtpocghcdfpcedaaLb
import Derived.Test.YtpocghcdfpcedaaKr
import Derived.Test.YtpocghcdfpcedaaOpenKc
import Derived.Test.YtpocghcdfpcedaaOpenKm
import Derived.Test.YtpocghcdfpcedaaOpenIz
import Derived.ProofKit
import Derived.OpenShut
import Derived.ShutString
import Derived.ChangeOld
import Derived.Lib.SmallJoins
namespace Go.Proofs.Ytpocghcdfpcedaa.fnExactBestCastOrder
open Go.ChangeShapes Go.WideShapes Go.ChangeAt Go.RowKit Go.Joins
open Go.ChangeMaps (open_string shut_string)
set_option linter.unusedVariables false

theorem own : ownKnob Try.prog.godebug = none := by kernel_rfl
theorem laidOut : laidOutB Try.prog = true := by kernel_rfl

set_option maxRecDepth 100000 in
set_option maxHeartbeats 2000000 in
theorem walk (m0 : Mc) (A1 : Option Addr) (f1 : List Ca) (c1 : Nat) (w : World) (hs1 : CasIn w A1 f1) (hl1 : f1.length ≤ maxLen) :
    Calls Try.prog 8 #[.agg #[.int .i64 m0.bod, .int .i64 m0.hou, .int .i64 m0.cha], .slice A1 f1.length c1] w fun e w' => e = .returned (.bool true) ∧ Below w.heap.size w w' := by
  have HS1 := Lib.hid hs1; clear hs1
  unfold maxLen at hl1
  obtain ⟨w0, hw0⟩ : ∃ w0 : World, w0 = (w.alloc (.cells #[.int .i64 m0.bod, .int .i64 m0.hou, .int .i64 m0.cha] 30)) := ⟨_, rfl⟩
  have hwz : w0.heap.size = w.heap.size + 1 := by rw [hw0]; simp
  have HWZ := Lib.hid hwz; clear hwz
  have A_0 : Hid (Below w.heap.size w w0) := Lib.hid (show Below _ _ _ by rw [hw0]; exact ((Below.refl _ _).alloc (by simp) _))
  have X0_0 : Hid (McAt w0 (w.heap.size) 30 m0) := Lib.hid (show McAt _ _ _ _ by rw [hw0]; exact (McAt.new _ _ _))
  have HW0 := Lib.hid hw0; clear hw0
  obtain ⟨V0, hV0⟩ : ∃ V, V = bcV m0 f1 := ⟨_, rfl⟩
  have HV0 := Lib.hid hV0; clear hV0
  have hne0 : (V0 != V0) = false := by simp
  obtain ⟨V1, hV1⟩ : ∃ V, V = askS m0 f1 := ⟨_, rfl⟩
  have HV1 := Lib.hid hV1; clear hV1
  have hne1 : (V1 != V1) = false := by simp
  obtain ⟨L, hL⟩ : ∃ L : List Int, L = bcL m0 f1 := ⟨_, rfl⟩
  have hmx : L.length ≤ 1048576 := by rw [hL]; exact bcL_len m0 f1
  have HL := Lib.hid hL; clear hL
  have hmx2 : L.length ≤ maxLen := by unfold maxLen; omega
  have HSP : Hid (∀ (W : World) (B1 : Option Addr), f1.length ≤ 1048576 → CasIn W B1 f1 → Calls Try.prog 31 #[.agg #[.int .i64 m0.bod, .int .i64 m0.hou, .int .i64 m0.cha], .slice B1 f1.length f1.length] W fun e W' => ∃ v T, e = .returned (.tuple #[v, .int .i64 V0, .bool V1]) ∧ Below W.heap.size W W' ∧ W'.ownsRow W.heap.size T 1 v L.length (intsZ L)) := Lib.hid (by
    rw [HV0.out, HV1.out, HL.out]; exact fun W B1 h1 i1 => specBest_any m0 f1 B1 f1.length W i1 h1)
  have HIM : Hid (∀ (W : World) (B1 : Option Addr), f1.length ≤ 1048576 → CasIn W B1 f1 → Calls Try.prog 32 #[.agg #[.int .i64 m0.bod, .int .i64 m0.hou, .int .i64 m0.cha], .slice B1 f1.length f1.length] W fun e W' => ∃ v T, e = .returned (.tuple #[v, .int .i64 V0, .bool V1]) ∧ Below W.heap.size W W' ∧ W'.ownsRow W.heap.size T 1 v L.length (intsZ L)) := Lib.hid (by
    rw [HV0.out, HV1.out, HL.out]; exact fun W B1 h1 i1 => implBest_any m0 f1 B1 f1.length W i1 h1)
  go_enter Try.func8, Try.ntmps8
  go_wp2_with fail
  rw [← HW0.out]
  refine (szCastingS_any f1 A1 c1 1048576 _ (by unfold maxLen; omega) (by omega) (by omega)).mono ?_
  rintro e w' ⟨rfl, hww⟩
  subst hww
  by_cases hz1 : (1048576 : Int) < (f1.length : Int)
  · rw [if_pos hz1]
    go_wp2
    go_ret
    exact ⟨rfl, A_0.out⟩
  rw [if_neg hz1]
  have hn1 : f1.length ≤ 1048576 := by omega
  have hnn1 : ¬ (1048576 : Int) - (f1.length : Int) < 0 := by omega
  clear hz1
  obtain ⟨q0, q1, q2⟩ := (X0_0.out).cells
  have ql := (X0_0.out).lt
  go_wp2_with fail
  refine (toMachine_any m0 _).mono ?_
  rintro e u1 ⟨rfl, hb1⟩
  clear q0 q1 q2 ql
  have hzhb1 : w0.heap.size ≤ u1.heap.size := hb1.size
  have A_1 : Hid (Below w.heap.size w u1) := Lib.hid ((A_0.out).trans (Below.mono hb1 (A_0.out).size))
  have X0_1 : Hid (McAt u1 (w.heap.size) 30 m0) := Lib.hid ((X0_0.out).next hb1)
  clear A_0 X0_0
  clear hb1
  go_wp2_with fail
  refine (toCaOwn_any f1 A1 c1 _ (HS1.out.below A_1.out (by first | exact Nat.le_refl _)) hn1).mono ?_
  rintro e u2 ⟨rfl, hb2, hr2⟩
  have hB2 : u1.heap.size < u2.heap.size := row_lt hr2
  have A_2 : Hid (Below w.heap.size w u2) := Lib.hid ((A_1.out).trans (Below.mono hb2 (A_1.out).size))
  have X0_2 : Hid (McAt u2 (w.heap.size) 30 m0) := Lib.hid ((X0_1.out).next hb2)
  clear A_1 X0_1
  clear hb2
  have Z1_2 : Hid (u2.ownsRow 0 39 2 (.slice (some ⟨u1.heap.size, 0, none⟩) f1.length f1.length) f1.length (flatCa f1)) := Lib.hid hr2
  clear hr2
  go_wp2_with fail
  refine (HSP.out _ _ hn1 (own_in_ca Z1_2.out)).mono ?_
  intro e u3 hto
  obtain ⟨vS, TS, rfl, hb3, hoS⟩ := hto
  obtain ⟨AS, cS, rfl⟩ := own_form hoS
  have hszS : u2.heap.size ≤ u3.heap.size := hb3.size
  have ltS : Hid (∀ k, (Value.slice AS L.length cS).ownBlock = some k → k < u3.heap.size) := Lib.hid (own_bound hoS)
  have A_3 : Hid (Below w.heap.size w u3) := Lib.hid ((A_2.out).trans (Below.mono hb3 (A_2.out).size))
  have X0_3 : Hid (McAt u3 (w.heap.size) 30 m0) := Lib.hid ((X0_2.out).next hb3)
  have Z1_3 : Hid (u3.ownsRow 0 39 2 (.slice (some ⟨u1.heap.size, 0, none⟩) f1.length f1.length) f1.length (flatCa f1)) := Lib.hid (own_below Z1_2.out hb3)
  clear A_2 X0_2 Z1_2
  clear hb3
  have hwle0 : Hid (w0.heap.size ≤ u3.heap.size) := Lib.hid (by have e1 := X0_3.out.lt; have e2 := HWZ.out; omega)
  have OS_3 : Hid (u3.ownsRow 0 TS 1 (.slice AS L.length cS) L.length (intsZ L)) := Lib.hid (own_up hoS)
  clear hoS
  clear Z1_3
  go_wp2_with fail
  refine (toCaOwn_any f1 A1 c1 _ (HS1.out.below A_3.out (by first | exact Nat.le_refl _)) hn1).mono ?_
  rintro e u4 ⟨rfl, hb4, hr4⟩
  have hB4 : u3.heap.size < u4.heap.size := row_lt hr4
  have A_4 : Hid (Below w.heap.size w u4) := Lib.hid ((A_3.out).trans (Below.mono hb4 (A_3.out).size))
  have X0_4 : Hid (McAt u4 (w.heap.size) 30 m0) := Lib.hid ((X0_3.out).next hb4)
  have OS_4 : Hid (u4.ownsRow 0 TS 1 (.slice AS L.length cS) L.length (intsZ L)) := Lib.hid (own_below OS_3.out hb4)
  clear A_3 X0_3 OS_3
  clear hb4
  have X_1_4 : Hid (u4.ownsRow 0 39 2 (.slice (some ⟨u3.heap.size, 0, none⟩) f1.length f1.length) f1.length (flatCa f1)) := Lib.hid hr4
  clear hr4
  obtain ⟨q0, q1, q2⟩ := (X0_4.out).cells
  have ql := (X0_4.out).lt
  go_wp2_with fail
  refine (toMachine_any m0 _).mono ?_
  rintro e u5 ⟨rfl, hb5⟩
  clear q0 q1 q2 ql
  have hzhb5 : u4.heap.size ≤ u5.heap.size := hb5.size
  have A_5 : Hid (Below w.heap.size w u5) := Lib.hid ((A_4.out).trans (Below.mono hb5 (A_4.out).size))
  have X0_5 : Hid (McAt u5 (w.heap.size) 30 m0) := Lib.hid ((X0_4.out).next hb5)
  have OS_5 : Hid (u5.ownsRow 0 TS 1 (.slice AS L.length cS) L.length (intsZ L)) := Lib.hid (own_below OS_4.out hb5)
  have X_1_5 : Hid (u5.ownsRow 0 39 2 (.slice (some ⟨u3.heap.size, 0, none⟩) f1.length f1.length) f1.length (flatCa f1)) := Lib.hid (own_below X_1_4.out hb5)
  clear A_4 X0_4 OS_4 X_1_4
  clear hb5
  go_wp2_with fail
  refine (HIM.out _ _ hn1 (own_in_ca X_1_5.out)).mono ?_
  intro e u6 hto
  obtain ⟨vG, TG, rfl, hb6, hoG⟩ := hto
  obtain ⟨AG, cG, rfl⟩ := own_form hoG
  have hszG : u5.heap.size ≤ u6.heap.size := hb6.size
  have frG : Hid (∀ k, (Value.slice AG L.length cG).ownBlock = some k → u5.heap.size ≤ k) := Lib.hid (own_lt hoG)
  have A_6 : Hid (Below w.heap.size w u6) := Lib.hid ((A_5.out).trans (Below.mono hb6 (A_5.out).size))
  have X0_6 : Hid (McAt u6 (w.heap.size) 30 m0) := Lib.hid ((X0_5.out).next hb6)
  have OS_6 : Hid (u6.ownsRow 0 TS 1 (.slice AS L.length cS) L.length (intsZ L)) := Lib.hid (own_below OS_5.out hb6)
  have X_1_6 : Hid (u6.ownsRow 0 39 2 (.slice (some ⟨u3.heap.size, 0, none⟩) f1.length f1.length) f1.length (flatCa f1)) := Lib.hid (own_below X_1_5.out hb6)
  clear A_5 X0_5 OS_5 X_1_5
  clear hb6
  have OG_6 : Hid (u6.ownsRow 0 TG 1 (.slice AG L.length cG) L.length (intsZ L)) := Lib.hid (own_up hoG)
  clear hoG
  go_wp2_with fail
  refine (eqIntS_any L L _ _ _ _ _ (own_in OG_6.out) (own_in OS_6.out) hmx2 hmx2).mono ?_
  rintro e u7 ⟨rfl, hb7⟩
  rw [show decide (L = L) = true from decide_eq_true rfl]
  have A_7 : Hid (Below w.heap.size w u7) := Lib.hid ((A_6.out).trans (Below.mono hb7 (A_6.out).size))
  have X0_7 : Hid (McAt u7 (w.heap.size) 30 m0) := Lib.hid ((X0_6.out).next hb7)
  have OS_7 : Hid (u7.ownsRow 0 TS 1 (.slice AS L.length cS) L.length (intsZ L)) := Lib.hid (own_below OS_6.out hb7)
  have X_1_7 : Hid (u7.ownsRow 0 39 2 (.slice (some ⟨u3.heap.size, 0, none⟩) f1.length f1.length) f1.length (flatCa f1)) := Lib.hid (own_below X_1_6.out hb7)
  have OG_7 : Hid (u7.ownsRow 0 TG 1 (.slice AG L.length cG) L.length (intsZ L)) := Lib.hid (own_below OG_6.out hb7)
  clear A_6 X0_6 OS_6 X_1_6 OG_6
  clear hb7
  go_wp2_with fail
  refine (toCaOwn_any f1 A1 c1 _ (HS1.out.below A_7.out (by first | exact Nat.le_refl _)) hn1).mono ?_
  rintro e u8 ⟨rfl, hb8, hr8⟩
  have hB8 : u7.heap.size < u8.heap.size := row_lt hr8
  have A_8 : Hid (Below w.heap.size w u8) := Lib.hid ((A_7.out).trans (Below.mono hb8 (A_7.out).size))
  have X0_8 : Hid (McAt u8 (w.heap.size) 30 m0) := Lib.hid ((X0_7.out).next hb8)
  have OS_8 : Hid (u8.ownsRow 0 TS 1 (.slice AS L.length cS) L.length (intsZ L)) := Lib.hid (own_below OS_7.out hb8)
  have X_1_8 : Hid (u8.ownsRow 0 39 2 (.slice (some ⟨u3.heap.size, 0, none⟩) f1.length f1.length) f1.length (flatCa f1)) := Lib.hid (own_below X_1_7.out hb8)
  have OG_8 : Hid (u8.ownsRow 0 TG 1 (.slice AG L.length cG) L.length (intsZ L)) := Lib.hid (own_below OG_7.out hb8)
  clear A_7 X0_7 OS_7 X_1_7 OG_7
  clear hb8
  have W1_8 : Hid (u8.ownsRow 0 39 2 (.slice (some ⟨u7.heap.size, 0, none⟩) f1.length f1.length) f1.length (flatCa f1)) := Lib.hid hr8
  clear hr8
  go_wp2_with fail
  refine (eqCastingS_any f1 f1 _ _ _ _ _ (own_in_ca X_1_8.out) (own_in_ca W1_8.out) (by unfold maxLen; omega) (by unfold maxLen; omega)).mono ?_
  rintro e u9 ⟨rfl, hb9⟩
  rw [show decide (f1 = f1) = true from decide_eq_true rfl]
  clear W1_8
  have A_9 : Hid (Below w.heap.size w u9) := Lib.hid ((A_8.out).trans (Below.mono hb9 (A_8.out).size))
  have X0_9 : Hid (McAt u9 (w.heap.size) 30 m0) := Lib.hid ((X0_8.out).next hb9)
  have OS_9 : Hid (u9.ownsRow 0 TS 1 (.slice AS L.length cS) L.length (intsZ L)) := Lib.hid (own_below OS_8.out hb9)
  have X_1_9 : Hid (u9.ownsRow 0 39 2 (.slice (some ⟨u3.heap.size, 0, none⟩) f1.length f1.length) f1.length (flatCa f1)) := Lib.hid (own_below X_1_8.out hb9)
  have OG_9 : Hid (u9.ownsRow 0 TG 1 (.slice AG L.length cG) L.length (intsZ L)) := Lib.hid (own_below OG_8.out hb9)
  clear A_8 X0_8 OS_8 X_1_8 OG_8
  clear hb9
  have hwle : w0.heap.size ≤ u3.heap.size := hwle0.out
  have hwz := HWZ.out
  go_wp2_with fail
  refine (markCaOwn_any 1 f1.length 0 _ _ _ X_1_9.out (by omega)).mono ?_
  rintro e u10 ⟨rfl, hg10⟩
  clear X_1_9
  have A_10 : Hid (Below w.heap.size w u10) := Lib.hid ((A_9.out).grown hg10 (A_9.out).size (fun k hk => by have e1 : u3.heap.size = k := Option.some.inj hk; omega))
  have X0_10 : Hid (McAt u10 (w.heap.size) 30 m0) := Lib.hid ((hg10.block _ (X0_9.out).lt (fun h => by have e1 : _ = u3.heap.size := Option.some.inj h; omega)).trans X0_9.out)
  have OS_10 : Hid (u10.ownsRow 0 TS 1 (.slice AS L.length cS) L.length (intsZ L)) := Lib.hid (own_grown OS_9.out hg10 (fun k hk e => by have e1 : u3.heap.size = k := Option.some.inj e; have e2 := ltS.out k hk; omega))
  have OG_10 : Hid (u10.ownsRow 0 TG 1 (.slice AG L.length cG) L.length (intsZ L)) := Lib.hid (own_grown OG_9.out hg10 (fun k hk e => by have e1 : u3.heap.size = k := Option.some.inj e; have e2 := frG.out k hk; omega))
  clear A_9 X0_9 OS_9 OG_9
  clear hg10
  obtain ⟨k1, hk1⟩ : ∃ k : Nat, k = (1 + 2 * f1.length) := ⟨_, rfl⟩
  rw [← hk1]
  have hkb1 : 1 ≤ k1 ∧ k1 ≤ 1 + 2 * 1048576 := by omega
  clear hk1
  obtain ⟨hka1, hkc1⟩ := hkb1
  have hk0 : ¬ ((k1 : Nat) : Int) < 0 := by omega
  go_wp2_with fail
  refine (eqIntS_any L L _ _ _ _ _ (own_in OG_10.out) (own_in OS_10.out) hmx2 hmx2).mono ?_
  rintro e u11 ⟨rfl, hb11⟩
  rw [show decide (L = L) = true from decide_eq_true rfl]
  have A_11 : Hid (Below w.heap.size w u11) := Lib.hid ((A_10.out).trans (Below.mono hb11 (A_10.out).size))
  have X0_11 : Hid (McAt u11 (w.heap.size) 30 m0) := Lib.hid ((X0_10.out).next hb11)
  have OS_11 : Hid (u11.ownsRow 0 TS 1 (.slice AS L.length cS) L.length (intsZ L)) := Lib.hid (own_below OS_10.out hb11)
  have OG_11 : Hid (u11.ownsRow 0 TG 1 (.slice AG L.length cG) L.length (intsZ L)) := Lib.hid (own_below OG_10.out hb11)
  clear A_10 X0_10 OS_10 OG_10
  clear hb11
  go_wp2_with fail
  refine (markIntSE_any 1 L.length 0 _ _ _ _ OG_11.out (by omega) (by omega)).mono ?_
  rintro e u12 ⟨rfl, hg12, om⟩
  have hne : ∀ k, (Value.slice AS L.length cS).ownBlock = some k → (Value.slice AG L.length cG).ownBlock ≠ some k := fun k h1 h2 => by have e1 := ltS.out k h1; have e2 := frG.out k h2; omega
  clear OG_11
  have A_12 : Hid (Below w.heap.size w u12) := Lib.hid ((A_11.out).grown hg12 (A_11.out).size (fun k hk => by have e1 := frG.out k hk; omega))
  have X0_12 : Hid (McAt u12 (w.heap.size) 30 m0) := Lib.hid ((hg12.block _ (X0_11.out).lt (fun h => by have e1 := frG.out _ h.symm; omega)).trans X0_11.out)
  have OS_12 : Hid (u12.ownsRow 0 TS 1 (.slice AS L.length cS) L.length (intsZ L)) := Lib.hid (own_grown OS_11.out hg12 hne)
  clear A_11 X0_11 OS_11
  have OM_12 : Hid (u12.ownsRow 0 TG 1 (.slice AG L.length cG) L.length (intsZ (marks 1 L.length))) := Lib.hid om
  have hqm : (1 + (L.length : Int) != 1 + (L.length : Int)) = false := by simp
  clear hg12 om hne
  go_wp2_with fail
  refine (heldIntS_any 1 L.length _ _ _ (own_in OM_12.out) (by omega) (by omega)).mono ?_
  rintro e u13 ⟨rfl, hwu13⟩
  subst hwu13
  -- another call
  obtain ⟨q0, q1, q2⟩ := (X0_12.out).cells
  have ql := (X0_12.out).lt
  go_wp2_with fail
  refine (toMachine_any m0 _).mono ?_
  rintro e u14 ⟨rfl, hb14⟩
  clear q0 q1 q2 ql
  have hzhb14 : u12.heap.size ≤ u14.heap.size := hb14.size
  have A_13 : Hid (Below w.heap.size w u14) := Lib.hid ((A_12.out).trans (Below.mono hb14 (A_12.out).size))
  have X0_13 : Hid (McAt u14 (w.heap.size) 30 m0) := Lib.hid ((X0_12.out).next hb14)
  have OS_13 : Hid (u14.ownsRow 0 TS 1 (.slice AS L.length cS) L.length (intsZ L)) := Lib.hid (own_below OS_12.out hb14)
  have OM_13 : Hid (u14.ownsRow 0 TG 1 (.slice AG L.length cG) L.length (intsZ (marks 1 L.length))) := Lib.hid (own_below OM_12.out hb14)
  clear A_12 X0_12 OS_12 OM_12
  clear hb14
  go_wp2_with fail
  refine (toCaOwn_any f1 A1 c1 _ (HS1.out.below A_13.out (by first | exact Nat.le_refl _)) hn1).mono ?_
  rintro e u15 ⟨rfl, hb15, hr15⟩
  have hB15 : u14.heap.size < u15.heap.size := row_lt hr15
  have A_14 : Hid (Below w.heap.size w u15) := Lib.hid ((A_13.out).trans (Below.mono hb15 (A_13.out).size))
  have X0_14 : Hid (McAt u15 (w.heap.size) 30 m0) := Lib.hid ((X0_13.out).next hb15)
  have OS_14 : Hid (u15.ownsRow 0 TS 1 (.slice AS L.length cS) L.length (intsZ L)) := Lib.hid (own_below OS_13.out hb15)
  have OM_14 : Hid (u15.ownsRow 0 TG 1 (.slice AG L.length cG) L.length (intsZ (marks 1 L.length))) := Lib.hid (own_below OM_13.out hb15)
  clear A_13 X0_13 OS_13 OM_13
  clear hb15
  have Y1_14 : Hid (u15.ownsRow 0 39 2 (.slice (some ⟨u14.heap.size, 0, none⟩) f1.length f1.length) f1.length (flatCa f1)) := Lib.hid hr15
  clear hr15
  go_wp2_with fail
  refine (HIM.out _ _ hn1 (own_in_ca Y1_14.out)).mono ?_
  intro e u16 hto
  obtain ⟨vH, TH, rfl, hb16, hoH⟩ := hto
  obtain ⟨AH, cH, rfl⟩ := own_form hoH
  have hszH : u15.heap.size ≤ u16.heap.size := hb16.size
  have A_15 : Hid (Below w.heap.size w u16) := Lib.hid ((A_14.out).trans (Below.mono hb16 (A_14.out).size))
  have X0_15 : Hid (McAt u16 (w.heap.size) 30 m0) := Lib.hid ((X0_14.out).next hb16)
  have OS_15 : Hid (u16.ownsRow 0 TS 1 (.slice AS L.length cS) L.length (intsZ L)) := Lib.hid (own_below OS_14.out hb16)
  have OM_15 : Hid (u16.ownsRow 0 TG 1 (.slice AG L.length cG) L.length (intsZ (marks 1 L.length))) := Lib.hid (own_below OM_14.out hb16)
  have Y1_15 : Hid (u16.ownsRow 0 39 2 (.slice (some ⟨u14.heap.size, 0, none⟩) f1.length f1.length) f1.length (flatCa f1)) := Lib.hid (own_below Y1_14.out hb16)
  clear A_14 X0_14 OS_14 OM_14 Y1_14
  clear hb16
  have OH_15 : Hid (u16.ownsRow 0 TH 1 (.slice AH L.length cH) L.length (intsZ L)) := Lib.hid (own_up hoH)
  clear hoH
  clear Y1_15
  go_wp2_with fail
  refine (eqIntS_any L L _ _ _ _ _ (own_in OH_15.out) (own_in OS_15.out) hmx2 hmx2).mono ?_
  rintro e u17 ⟨rfl, hb17⟩
  rw [show decide (L = L) = true from decide_eq_true rfl]
  have A_16 : Hid (Below w.heap.size w u17) := Lib.hid ((A_15.out).trans (Below.mono hb17 (A_15.out).size))
  have X0_16 : Hid (McAt u17 (w.heap.size) 30 m0) := Lib.hid ((X0_15.out).next hb17)
  have OS_16 : Hid (u17.ownsRow 0 TS 1 (.slice AS L.length cS) L.length (intsZ L)) := Lib.hid (own_below OS_15.out hb17)
  have OM_16 : Hid (u17.ownsRow 0 TG 1 (.slice AG L.length cG) L.length (intsZ (marks 1 L.length))) := Lib.hid (own_below OM_15.out hb17)
  have OH_16 : Hid (u17.ownsRow 0 TH 1 (.slice AH L.length cH) L.length (intsZ L)) := Lib.hid (own_below OH_15.out hb17)
  clear A_15 X0_15 OS_15 OM_15 OH_15
  clear hb17
  go_wp2_with fail
  refine (heldIntS_any 1 L.length _ _ _ (own_in OM_16.out) (by omega) (by omega)).mono ?_
  rintro e u18 ⟨rfl, hwu18⟩
  subst hwu18
  go_wp2
  go_ret
  exact ⟨rfl, A_16.out⟩

set_option maxRecDepth 100000 in
theorem lifted (os : Os) (started : os.Started) (H : Type) (enc : TypeId × Value → H) :
    ReturnsInHanded {} Try.checked os 8 .any (Rows.fnExactBestCastOrderSpec.pre6 enc Try.prog Try.f8 Rows.fnExactBestCastOrderRow.domain false) (Rows.fnExactBestCastOrderSpec.post enc Try.prog Try.f8 false true false false) := by
  refine returnsInHanded_of_change (C := Try.checked) own started (by kernel_rfl) Try.func8
    (ChangeSpec.witness6 (enc := enc) (C := Try.checked) false ⟨#[], #[.agg #[.int .i64 0, .int .i64 0, .int .i64 0], .slice none 0 0], []⟩ 8 (by kernel_rfl) (by kernel_rfl) (by kernel_rfl) (by kernel_rfl)) ?_
  intro W base args ds gs before hval0 hW hcnd _
  have hval : ∀ (j : Nat) t v, Try.f8.params[j]? = some t → args[j]? = some v → Value.okWide Try.prog W .any base t v := hval0
  have hW' := hW
  obtain ⟨p, q, hA0, hV, rfl, hfz, hnd⟩ := hW
  have hA : DataW.TrodAll enc Try.prog W 0 (fun _ => true) true Try.f8.params.toList args.toList ds p := hA0
  rw [Try.params8] at hA hval
  obtain ⟨v0, vs0, d0, ds0, p0, q0, hargs, rfl, rfl, h0, r0⟩ := trodAll_cons hA
  obtain ⟨v1, vs1, d1, ds1, p1, q1, rfl, rfl, rfl, h1, r1⟩ := trodAll_cons r0
  obtain ⟨rfl, rfl, rfl⟩ := trodAll_nil r1
  obtain rfl : args = #[v0, v1] := by cases args; simp_all
  obtain ⟨rfl, rfl⟩ := trodVars_none hV
  have k0 := h0
  have lt0 : ∀ x ∈ p0, x.block < W.heap.size := by obtain ⟨m, hm⟩ := k0; exact DataW.trod_lt m _ _ _ hm
  have k1 := h1
  have lt1 : ∀ x ∈ p1, x.block < W.heap.size := by obtain ⟨m, hm⟩ := k1; exact DataW.trod_lt m _ _ _ hm
  obtain ⟨m0, rfl, wm0⟩ := open_mc (hval 0 30 v0 rfl rfl) h0
  obtain ⟨A1, f1, c1, rfl, hs1, hl1⟩ := open_cas (hval 1 22 v1 rfl rfl) h1
  clear hA0 hval0
  refine (walk m0 A1 f1 c1 W hs1 hl1).mono fun e W' ⟨he, bel⟩ => ?_
  subst he
  exact ⟨_, rfl, _, _, _, [], _, [], hW', trodAll_mk1 (shut_bool Try.underlying4 _), (trodAll_cons_mk (Below.trod laidOut (by kernel_rfl) (of_decide_eq_true (by kernel_rfl)) k0 bel lt0) (trodAll_cons_mk (Below.trod laidOut (by kernel_rfl) (of_decide_eq_true (by kernel_rfl)) k1 bel lt1) trodAll_mk0)), rfl, bel.frame _, fun h => by cases h⟩

theorem over : Rows.fnExactBestCastOrderRow.holds Try.pinned (OpenSpec.ofChange Rows.fnExactBestCastOrderSpec) :=
  OpenClaim.holds_of_wide 8 Try.f8 rfl rfl rfl rfl rfl rfl rfl ⟨rfl, rfl, rfl, rfl, rfl⟩ rfl rfl rfl rfl rfl (by kernel_rfl) Try.func8 (by kernel_rfl)
    (of_decide_eq_true (by kernel_rfl)) (by unfold Func.isWrapper; first | (rw [if_pos (by decide +kernel)]; kernel_rfl) | (rw [if_neg (by decide +kernel)]; exact ⟨rfl, rfl⟩))
    (fun os started H enc _ => lifted os started H enc)

theorem proved : Rows.FnExactBestCastOrderSaid := over
end Go.Proofs.Ytpocghcdfpcedaa.fnExactBestCastOrder
