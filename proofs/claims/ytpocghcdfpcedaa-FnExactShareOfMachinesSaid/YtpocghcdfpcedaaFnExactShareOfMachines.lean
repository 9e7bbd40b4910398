/-
  FnExactShareOfMachines: for every input (a machine, a machine, a slice of castings) the law returns true, and what it was given reads as before. Conditions: none beyond the given statement's own.
-/
import Derived.Test.YtpocghcdfpcedaaRows
import Derived.Test.YtpocghcdfpcedaaKp
import Derived.Test.YtpocghcdfpcedaaKr
import Derived.Test.YtpocghcdfpcedaaOpenKc
import Derived.Test.YtpocghcdfpcedaaOpenKm
import Derived.Test.YtpocghcdfpcedaaOpenIz
import Derived.Deep.RegionLaw
import Derived.Deep.DeepCutAuto
import Derived.Test.YtpocghcdfpcedaaTail
import Derived.ProofKit
import Derived.OpenShut
import Derived.ShutString
import Derived.ChangeOld
import Derived.Lib.SmallJoins
namespace Go.Proofs.Ytpocghcdfpcedaa.fnExactShareOfMachines
open Go.ChangeShapes Go.WideShapes Go.ChangeAt Go.RowKit Go.Joins
open Go.ChangeMaps (open_string shut_string)
set_option linter.unusedVariables false

theorem own : ownKnob Try.prog.godebug = none := by kernel_rfl
theorem laidOut : laidOutB Try.prog = true := by kernel_rfl

set_option maxRecDepth 100000 in
set_option maxHeartbeats 9000000 in
theorem walk (m0 : Mc) (m1 : Mc) (A2 : Option Addr) (f2 : List Ca) (c2 : Nat) (w : World) (hs2 : CasIn w A2 f2) (hl2 : f2.length ≤ maxLen) :
    Calls Try.prog 12 #[.agg #[.int .i64 m0.bod, .int .i64 m0.hou, .int .i64 m0.cha], .agg #[.int .i64 m1.bod, .int .i64 m1.hou, .int .i64 m1.cha], .slice A2 f2.length c2] w fun e w' => e = .returned (.bool true) ∧ Below w.heap.size w w' := by
  have HS2 := Lib.hid hs2; clear hs2
  unfold maxLen at hl2
  obtain ⟨w0, hw0⟩ : ∃ w0 : World, w0 = ((w.alloc (.cells #[.int .i64 m0.bod, .int .i64 m0.hou, .int .i64 m0.cha] 30)).alloc (.cells #[.int .i64 m1.bod, .int .i64 m1.hou, .int .i64 m1.cha] 30)) := ⟨_, rfl⟩
  have hwz : w0.heap.size = w.heap.size + 2 := by rw [hw0]; simp
  have HWZ := Lib.hid hwz; clear hwz
  have A_0 : Hid (Below w.heap.size w w0) := Lib.hid (show Below _ _ _ by rw [hw0]; exact (((Below.refl _ _).alloc (by simp) _).alloc (by simp) _))
  have X0_0 : Hid (McAt w0 (w.heap.size) 30 m0) := Lib.hid (show McAt _ _ _ _ by rw [hw0]; exact McAt.alloc ((McAt.new _ _ _)) _)
  have X1_0 : Hid (McAt w0 (w.heap.size + 1) 30 m1) := Lib.hid (show McAt _ _ _ _ by rw [hw0]; exact heap_alloc2_new _ _ _)
  have HW0 := Lib.hid hw0; clear hw0
  obtain ⟨V0, hV0⟩ : ∃ V, V = smV m0 m1 f2 := ⟨_, rfl⟩
  have HV0 := Lib.hid hV0; clear hV0
  have hne0 : (V0 != V0) = false := by simp
  obtain ⟨V1, hV1⟩ : ∃ V, V = askM m0 m1 f2 := ⟨_, rfl⟩
  have HV1 := Lib.hid hV1; clear hV1
  have hne1 : (V1 != V1) = false := by simp
  obtain ⟨L, hL⟩ : ∃ L : List Int, L = smL m0 m1 f2 := ⟨_, rfl⟩
  have hmx : L.length ≤ 1048576 := by rw [hL]; exact smL_len m0 m1 f2
  have HL := Lib.hid hL; clear hL
  have hmx2 : L.length ≤ maxLen := by unfold maxLen; omega
  have HSP : Hid (∀ (W : World) (B2 : Option Addr), f2.length ≤ 1048576 → CasIn W B2 f2 → Calls Try.prog 42 #[.agg #[.int .i64 m0.bod, .int .i64 m0.hou, .int .i64 m0.cha], .agg #[.int .i64 m1.bod, .int .i64 m1.hou, .int .i64 m1.cha], .slice B2 f2.length f2.length] W fun e W' => ∃ v T, e = .returned (.tuple #[v, .int .i64 V0, .bool V1]) ∧ Below W.heap.size W W' ∧ W'.ownsRow W.heap.size T 1 v L.length (intsZ L)) := Lib.hid (by
    rw [HV0.out, HV1.out, HL.out]; exact fun W B2 h2 i2 => specShare_any m0 m1 f2 B2 f2.length W i2 h2)
  have HIM : Hid (∀ (W : World) (B2 : Option Addr), f2.length ≤ 1048576 → CasIn W B2 f2 → Calls Try.prog 43 #[.agg #[.int .i64 m0.bod, .int .i64 m0.hou, .int .i64 m0.cha], .agg #[.int .i64 m1.bod, .int .i64 m1.hou, .int .i64 m1.cha], .slice B2 f2.length f2.length] W fun e W' => ∃ v T, e = .returned (.tuple #[v, .int .i64 V0, .bool V1]) ∧ Below W.heap.size W W' ∧ W'.ownsRow W.heap.size T 1 v L.length (intsZ L)) := Lib.hid (by
    rw [HV0.out, HV1.out, HL.out]; exact fun W B2 h2 i2 => implShare_any m0 m1 f2 B2 f2.length W i2 h2)
  go_enter Try.func12, Try.ntmps12
  go_wp2_with fail
  rw [← HW0.out]
  refine (szCastingS_any f2 A2 c2 1048576 _ (by unfold maxLen; omega) (by omega) (by omega)).mono ?_
  rintro e w' ⟨rfl, hww⟩
  subst hww
  by_cases hz2 : (1048576 : Int) < (f2.length : Int)
  · rw [if_pos hz2]
    go_wp2
    go_ret
    exact ⟨rfl, A_0.out⟩
  rw [if_neg hz2]
  have hn2 : f2.length ≤ 1048576 := by omega
  have hnn2 : ¬ (1048576 : Int) - (f2.length : Int) < 0 := by omega
  clear hz2
  have HDB : Hid (Below w0.heap.size w0 w0.drew) := Lib.hid ((Below.refl _ _).drew)
  have HXA : Hid (McAt w0.drew (w.heap.size) 30 m0) := Lib.hid X0_0.out
  have HXB : Hid (McAt w0.drew (w.heap.size + 1) 30 m1) := Lib.hid X1_0.out
  have HSR : Hid (CasIn w0.drew A2 f2) := Lib.hid (HS2.out.below (A_0.out).drew (Nat.le_refl _))
  have tokc : True := trivial
  obtain ⟨q0, q1, q2⟩ := (X0_0.out).cells
  have ql := (X0_0.out).lt
  obtain ⟨y0, y1, y2⟩ := (X1_0.out).cells
  have yl := (X1_0.out).lt
  go_wp2_with fail
  go_cut [8, 9, 10] (fun s8 s9 s10 wx => ∃ v T, s8 = v ∧ s9 = .int .i64 V0 ∧ s10 = .bool V1 ∧ Below w0.heap.size w0 wx ∧ wx.ownsRow w0.heap.size T 1 v L.length (intsZ L))
  case first =>
    go_region_law (first
      | (go_simp; go_at_call_of 20 (Value.agg #[.int .i64 m0.bod, .int .i64 m0.hou, .int .i64 m0.cha]); have _t := tokc; refine (toMachine_any m0 _).mono ?_; rintro e uA ⟨rfl, hcA⟩; clear _t tokc; have HDA := Lib.hid (HDB.out.trans (hcA.mono HDB.out.size)); have HXBA := Lib.hid (HXB.out.next hcA); have HSRA := Lib.hid (HSR.out.below hcA (Nat.le_refl _)); obtain ⟨z0, z1, z2⟩ := HXBA.out.cells; have zl := HXBA.out.lt; clear q0 q1 q2 ql y0 y1 y2 yl hcA)
      | (go_simp; go_at_call_of 20 (Value.agg #[.int .i64 m1.bod, .int .i64 m1.hou, .int .i64 m1.cha]); refine (toMachine_any m1 _).mono ?_; rintro e uB ⟨rfl, hcB⟩; have HDC := Lib.hid (HDA.out.trans (hcB.mono HDA.out.size)); have HSRB := Lib.hid (HSRA.out.below hcB (Nat.le_refl _)); clear z0 z1 z2 zl hcB)
      | (go_simp; go_at_call 16; refine (toCastingS_any f2 A2 c2 _ HSRB.out hn2).mono ?_; rintro e uC ⟨rfl, hcC, hr⟩; have HDD := Lib.hid (HDC.out.trans (hcC.mono HDC.out.size)); have HFU := Lib.hid hr.cas; clear hr hcC)
      | (go_simp; go_at_call 42; refine (HSP.out _ _ hn2 HFU.out).mono ?_; rintro e u3 ⟨v3, T3, rfl, hb3, ho3⟩; have hbV := HDD.out.trans (hb3.mono HDD.out.size)))
    all_goals (go_wp2_with fail; go_meet; exact ⟨_, _, rfl, rfl, rfl, hbV, Joins.ownsRow_le ho3 HDD.out.size⟩)
  case rest =>
  clear q0 q1 q2 ql y0 y1 y2 yl HDB HXA HXB HSR tokc
  obtain ⟨vS, TS, rfl, rfl, rfl, hb1, hoS⟩ := hcut
  obtain ⟨AS, cS, rfl⟩ := own_form hoS
  obtain ⟨u1, hwu1⟩ : ∃ u, u = wc := ⟨_, rfl⟩
  subst hwu1
  have hszS : w0.heap.size ≤ u1.heap.size := hb1.size
  have ltS : Hid (∀ k, (Value.slice AS L.length cS).ownBlock = some k → k < u1.heap.size) := Lib.hid (own_bound hoS)
  have A_1 : Hid (Below w.heap.size w u1) := Lib.hid ((A_0.out).trans (Below.mono hb1 (A_0.out).size))
  have X0_1 : Hid (McAt u1 (w.heap.size) 30 m0) := Lib.hid ((X0_0.out).next hb1)
  have X1_1 : Hid (McAt u1 (w.heap.size + 1) 30 m1) := Lib.hid ((X1_0.out).next hb1)
  clear A_0 X0_0 X1_0
  clear hb1
  have hwle0 : Hid (w0.heap.size ≤ u1.heap.size) := Lib.hid (by have e1 := X0_1.out.lt; have e2 := HWZ.out; omega)
  have OS_1 : Hid (u1.ownsRow 0 TS 1 (.slice AS L.length cS) L.length (intsZ L)) := Lib.hid (own_up hoS)
  clear hoS
  go_wp2_with fail
  refine (toCaOwn_any f2 A2 c2 _ (HS2.out.below A_1.out (by first | exact Nat.le_refl _)) hn2).mono ?_
  rintro e u2 ⟨rfl, hb2, hr2⟩
  have hB2 : u1.heap.size < u2.heap.size := row_lt hr2
  have A_2 : Hid (Below w.heap.size w u2) := Lib.hid ((A_1.out).trans (Below.mono hb2 (A_1.out).size))
  have X0_2 : Hid (McAt u2 (w.heap.size) 30 m0) := Lib.hid ((X0_1.out).next hb2)
  have X1_2 : Hid (McAt u2 (w.heap.size + 1) 30 m1) := Lib.hid ((X1_1.out).next hb2)
  have OS_2 : Hid (u2.ownsRow 0 TS 1 (.slice AS L.length cS) L.length (intsZ L)) := Lib.hid (own_below OS_1.out hb2)
  clear A_1 X0_1 X1_1 OS_1
  clear hb2
  have X_2_2 : Hid (u2.ownsRow 0 39 2 (.slice (some ⟨u1.heap.size, 0, none⟩) f2.length f2.length) f2.length (flatCa f2)) := Lib.hid hr2
  clear hr2
  obtain ⟨q0, q1, q2⟩ := (X0_2.out).kept (B := u2.heap.size) (X0_2.out).lt
  obtain ⟨y0, y1, y2⟩ := (X1_2.out).kept (B := u2.heap.size) (X1_2.out).lt
  go_wp2_with fail
  refine region_mid u2.heap.size 5 (by kernel_rfl) (by kernel_rfl) rfl ?_
  simp only [List.take_succ_cons, List.take_zero]
  repeat (go_big_quiet_step (fail))
  go_big_quiet_step ((go_at_call 20; exact kept_call _ (Nat.le_refl _) (toMachine_any m0 _)))
  repeat (go_big_quiet_step (fail))
  go_big_quiet_step ((go_at_call 20; exact kept_call _ (Nat.le_refl _) (toMachine_any m1 _)))
  repeat (go_big_quiet_step (fail))
  refine wpQuiet_nil ?_
  intro u3 hb3 K hK
  clear q0 q1 q2 y0 y1 y2
  have hz3 : u2.heap.size ≤ u3.heap.size := hb3.size
  have A_3 : Hid (Below w.heap.size w u3) := Lib.hid ((A_2.out).trans (Below.mono hb3 (A_2.out).size))
  have X0_3 : Hid (McAt u3 (w.heap.size) 30 m0) := Lib.hid ((X0_2.out).next hb3)
  have X1_3 : Hid (McAt u3 (w.heap.size + 1) 30 m1) := Lib.hid ((X1_2.out).next hb3)
  have OS_3 : Hid (u3.ownsRow 0 TS 1 (.slice AS L.length cS) L.length (intsZ L)) := Lib.hid (own_below OS_2.out hb3)
  have X_2_3 : Hid (u3.ownsRow 0 39 2 (.slice (some ⟨u1.heap.size, 0, none⟩) f2.length f2.length) f2.length (flatCa f2)) := Lib.hid (own_below X_2_2.out hb3)
  clear A_2 X0_2 X1_2 OS_2 X_2_2
  clear hb3
  go_simp
  go_at_call 43
  refine (HIM.out _ _ hn2 (own_in_ca X_2_3.out)).mono ?_
  intro e u4 hto
  obtain ⟨vG, TG, rfl, hb4, hoG⟩ := hto
  obtain ⟨AG, cG, rfl⟩ := own_form hoG
  have hszG : u3.heap.size ≤ u4.heap.size := hb4.size
  have frG : Hid (∀ k, (Value.slice AG L.length cG).ownBlock = some k → u3.heap.size ≤ k) := Lib.hid (own_lt hoG)
  have A_4 : Hid (Below w.heap.size w u4) := Lib.hid ((A_3.out).trans (Below.mono hb4 (A_3.out).size))
  have X0_4 : Hid (McAt u4 (w.heap.size) 30 m0) := Lib.hid ((X0_3.out).next hb4)
  have X1_4 : Hid (McAt u4 (w.heap.size + 1) 30 m1) := Lib.hid ((X1_3.out).next hb4)
  have OS_4 : Hid (u4.ownsRow 0 TS 1 (.slice AS L.length cS) L.length (intsZ L)) := Lib.hid (own_below OS_3.out hb4)
  have X_2_4 : Hid (u4.ownsRow 0 39 2 (.slice (some ⟨u1.heap.size, 0, none⟩) f2.length f2.length) f2.length (flatCa f2)) := Lib.hid (own_below X_2_3.out hb4)
  clear A_3 X0_3 X1_3 OS_3 X_2_3
  clear hb4
  have OG_4 : Hid (u4.ownsRow 0 TG 1 (.slice AG L.length cG) L.length (intsZ L)) := Lib.hid (own_up hoG)
  clear hoG
  refine hK _ _ ?_
  clear hK
  simp only [List.drop_succ_cons, List.drop_zero]
  repeat (go_big_quiet_step (fail))
  refine wpQuiet_nil ?_
  go_wp2_with fail
  refine (eqIntS_any L L _ _ _ _ _ (own_in OG_4.out) (own_in OS_4.out) hmx2 hmx2).mono ?_
  rintro e u5 ⟨rfl, hb5⟩
  rw [show decide (L = L) = true from decide_eq_true rfl]
  have A_5 : Hid (Below w.heap.size w u5) := Lib.hid ((A_4.out).trans (Below.mono hb5 (A_4.out).size))
  have X0_5 : Hid (McAt u5 (w.heap.size) 30 m0) := Lib.hid ((X0_4.out).next hb5)
  have X1_5 : Hid (McAt u5 (w.heap.size + 1) 30 m1) := Lib.hid ((X1_4.out).next hb5)
  have OS_5 : Hid (u5.ownsRow 0 TS 1 (.slice AS L.length cS) L.length (intsZ L)) := Lib.hid (own_below OS_4.out hb5)
  have X_2_5 : Hid (u5.ownsRow 0 39 2 (.slice (some ⟨u1.heap.size, 0, none⟩) f2.length f2.length) f2.length (flatCa f2)) := Lib.hid (own_below X_2_4.out hb5)
  have OG_5 : Hid (u5.ownsRow 0 TG 1 (.slice AG L.length cG) L.length (intsZ L)) := Lib.hid (own_below OG_4.out hb5)
  clear A_4 X0_4 X1_4 OS_4 X_2_4 OG_4
  clear hb5
  go_wp2_with fail
  refine (toCaOwn_any f2 A2 c2 _ (HS2.out.below A_5.out (by first | exact Nat.le_refl _)) hn2).mono ?_
  rintro e u6 ⟨rfl, hb6, hr6⟩
  have hB6 : u5.heap.size < u6.heap.size := row_lt hr6
  have A_6 : Hid (Below w.heap.size w u6) := Lib.hid ((A_5.out).trans (Below.mono hb6 (A_5.out).size))
  have X0_6 : Hid (McAt u6 (w.heap.size) 30 m0) := Lib.hid ((X0_5.out).next hb6)
  have X1_6 : Hid (McAt u6 (w.heap.size + 1) 30 m1) := Lib.hid ((X1_5.out).next hb6)
  have OS_6 : Hid (u6.ownsRow 0 TS 1 (.slice AS L.length cS) L.length (intsZ L)) := Lib.hid (own_below OS_5.out hb6)
  have X_2_6 : Hid (u6.ownsRow 0 39 2 (.slice (some ⟨u1.heap.size, 0, none⟩) f2.length f2.length) f2.length (flatCa f2)) := Lib.hid (own_below X_2_5.out hb6)
  have OG_6 : Hid (u6.ownsRow 0 TG 1 (.slice AG L.length cG) L.length (intsZ L)) := Lib.hid (own_below OG_5.out hb6)
  clear A_5 X0_5 X1_5 OS_5 X_2_5 OG_5
  clear hb6
  have W2_6 : Hid (u6.ownsRow 0 39 2 (.slice (some ⟨u5.heap.size, 0, none⟩) f2.length f2.length) f2.length (flatCa f2)) := Lib.hid hr6
  clear hr6
  go_wp2_with fail
  refine (eqCastingS_any f2 f2 _ _ _ _ _ (own_in_ca X_2_6.out) (own_in_ca W2_6.out) (by unfold maxLen; omega) (by unfold maxLen; omega)).mono ?_
  rintro e u7 ⟨rfl, hb7⟩
  rw [show decide (f2 = f2) = true from decide_eq_true rfl]
  clear W2_6
  have A_7 : Hid (Below w.heap.size w u7) := Lib.hid ((A_6.out).trans (Below.mono hb7 (A_6.out).size))
  have X0_7 : Hid (McAt u7 (w.heap.size) 30 m0) := Lib.hid ((X0_6.out).next hb7)
  have X1_7 : Hid (McAt u7 (w.heap.size + 1) 30 m1) := Lib.hid ((X1_6.out).next hb7)
  have OS_7 : Hid (u7.ownsRow 0 TS 1 (.slice AS L.length cS) L.length (intsZ L)) := Lib.hid (own_below OS_6.out hb7)
  have X_2_7 : Hid (u7.ownsRow 0 39 2 (.slice (some ⟨u1.heap.size, 0, none⟩) f2.length f2.length) f2.length (flatCa f2)) := Lib.hid (own_below X_2_6.out hb7)
  have OG_7 : Hid (u7.ownsRow 0 TG 1 (.slice AG L.length cG) L.length (intsZ L)) := Lib.hid (own_below OG_6.out hb7)
  clear A_6 X0_6 X1_6 OS_6 X_2_6 OG_6
  clear hb7
  have hwle : w0.heap.size ≤ u1.heap.size := hwle0.out
  have hwz := HWZ.out
  go_wp2_with fail
  refine (markCaOwn_any 1 f2.length 0 _ _ _ X_2_7.out (by omega)).mono ?_
  rintro e u8 ⟨rfl, hg8⟩
  clear X_2_7
  have A_8 : Hid (Below w.heap.size w u8) := Lib.hid ((A_7.out).grown hg8 (A_7.out).size (fun k hk => by have e1 : u1.heap.size = k := Option.some.inj hk; omega))
  have X0_8 : Hid (McAt u8 (w.heap.size) 30 m0) := Lib.hid ((hg8.block _ (X0_7.out).lt (fun h => by have e1 : _ = u1.heap.size := Option.some.inj h; omega)).trans X0_7.out)
  have X1_8 : Hid (McAt u8 (w.heap.size + 1) 30 m1) := Lib.hid ((hg8.block _ (X1_7.out).lt (fun h => by have e1 : _ = u1.heap.size := Option.some.inj h; omega)).trans X1_7.out)
  have OS_8 : Hid (u8.ownsRow 0 TS 1 (.slice AS L.length cS) L.length (intsZ L)) := Lib.hid (own_grown OS_7.out hg8 (fun k hk e => by have e1 : u1.heap.size = k := Option.some.inj e; have e2 := ltS.out k hk; omega))
  have OG_8 : Hid (u8.ownsRow 0 TG 1 (.slice AG L.length cG) L.length (intsZ L)) := Lib.hid (own_grown OG_7.out hg8 (fun k hk e => by have e1 : u1.heap.size = k := Option.some.inj e; have e2 := frG.out k hk; omega))
  clear A_7 X0_7 X1_7 OS_7 OG_7
  clear hg8
  obtain ⟨k2, hk2⟩ : ∃ k : Nat, k = (1 + 2 * f2.length) := ⟨_, rfl⟩
  rw [← hk2]
  have hkb2 : 1 ≤ k2 ∧ k2 ≤ 1 + 2 * 1048576 := by omega
  clear hk2
  obtain ⟨hka2, hkc2⟩ := hkb2
  have hk0 : ¬ ((k2 : Nat) : Int) < 0 := by omega
  go_wp2_with fail
  refine (eqIntS_any L L _ _ _ _ _ (own_in OG_8.out) (own_in OS_8.out) hmx2 hmx2).mono ?_
  rintro e u9 ⟨rfl, hb9⟩
  rw [show decide (L = L) = true from decide_eq_true rfl]
  have A_9 : Hid (Below w.heap.size w u9) := Lib.hid ((A_8.out).trans (Below.mono hb9 (A_8.out).size))
  have X0_9 : Hid (McAt u9 (w.heap.size) 30 m0) := Lib.hid ((X0_8.out).next hb9)
  have X1_9 : Hid (McAt u9 (w.heap.size + 1) 30 m1) := Lib.hid ((X1_8.out).next hb9)
  have OS_9 : Hid (u9.ownsRow 0 TS 1 (.slice AS L.length cS) L.length (intsZ L)) := Lib.hid (own_below OS_8.out hb9)
  have OG_9 : Hid (u9.ownsRow 0 TG 1 (.slice AG L.length cG) L.length (intsZ L)) := Lib.hid (own_below OG_8.out hb9)
  clear A_8 X0_8 X1_8 OS_8 OG_8
  clear hb9
  go_wp2_with fail
  refine (markIntSE_any 1 L.length 0 _ _ _ _ OG_9.out (by omega) (by omega)).mono ?_
  rintro e u10 ⟨rfl, hg10, om⟩
  have hne : ∀ k, (Value.slice AS L.length cS).ownBlock = some k → (Value.slice AG L.length cG).ownBlock ≠ some k := fun k h1 h2 => by have e1 := ltS.out k h1; have e2 := frG.out k h2; omega
  clear OG_9
  have A_10 : Hid (Below w.heap.size w u10) := Lib.hid ((A_9.out).grown hg10 (A_9.out).size (fun k hk => by have e1 := frG.out k hk; omega))
  have X0_10 : Hid (McAt u10 (w.heap.size) 30 m0) := Lib.hid ((hg10.block _ (X0_9.out).lt (fun h => by have e1 := frG.out _ h.symm; omega)).trans X0_9.out)
  have X1_10 : Hid (McAt u10 (w.heap.size + 1) 30 m1) := Lib.hid ((hg10.block _ (X1_9.out).lt (fun h => by have e1 := frG.out _ h.symm; omega)).trans X1_9.out)
  have OS_10 : Hid (u10.ownsRow 0 TS 1 (.slice AS L.length cS) L.length (intsZ L)) := Lib.hid (own_grown OS_9.out hg10 hne)
  clear A_9 X0_9 X1_9 OS_9
  have OM_10 : Hid (u10.ownsRow 0 TG 1 (.slice AG L.length cG) L.length (intsZ (marks 1 L.length))) := Lib.hid om
  have hqm : (1 + (L.length : Int) != 1 + (L.length : Int)) = false := by simp
  clear hg10 om hne
  go_wp2_with fail
  refine (heldIntS_any 1 L.length _ _ _ (own_in OM_10.out) (by omega) (by omega)).mono ?_
  rintro e u11 ⟨rfl, hwu11⟩
  subst hwu11
  -- another call
  have HDB : Hid (Below u10.heap.size u10 u10.drew) := Lib.hid ((Below.refl _ _).drew)
  have HXA : Hid (McAt u10.drew (w.heap.size) 30 m0) := Lib.hid X0_10.out
  have HXB : Hid (McAt u10.drew (w.heap.size + 1) 30 m1) := Lib.hid X1_10.out
  have HSR : Hid (CasIn u10.drew A2 f2) := Lib.hid (HS2.out.below (A_10.out).drew (Nat.le_refl _))
  have tokc : True := trivial
  obtain ⟨q0, q1, q2⟩ := (X0_10.out).cells
  have ql := (X0_10.out).lt
  obtain ⟨y0, y1, y2⟩ := (X1_10.out).cells
  have yl := (X1_10.out).lt
  go_wp2_with fail
  go_cut [18, 19, 20] (fun s18 s19 s20 wx => ∃ v T, s18 = v ∧ s19 = .int .i64 V0 ∧ s20 = .bool V1 ∧ Below u10.heap.size u10 wx ∧ wx.ownsRow u10.heap.size T 1 v L.length (intsZ L))
  case first =>
    go_region_law (first
      | (go_simp; go_at_call_of 20 (Value.agg #[.int .i64 m0.bod, .int .i64 m0.hou, .int .i64 m0.cha]); have _t := tokc; refine (toMachine_any m0 _).mono ?_; rintro e uA ⟨rfl, hcA⟩; clear _t tokc; have HDA := Lib.hid (HDB.out.trans (hcA.mono HDB.out.size)); have HXBA := Lib.hid (HXB.out.next hcA); have HSRA := Lib.hid (HSR.out.below hcA (Nat.le_refl _)); obtain ⟨z0, z1, z2⟩ := HXBA.out.cells; have zl := HXBA.out.lt; clear q0 q1 q2 ql y0 y1 y2 yl hcA)
      | (go_simp; go_at_call_of 20 (Value.agg #[.int .i64 m1.bod, .int .i64 m1.hou, .int .i64 m1.cha]); refine (toMachine_any m1 _).mono ?_; rintro e uB ⟨rfl, hcB⟩; have HDC := Lib.hid (HDA.out.trans (hcB.mono HDA.out.size)); have HSRB := Lib.hid (HSRA.out.below hcB (Nat.le_refl _)); clear z0 z1 z2 zl hcB)
      | (go_simp; go_at_call 16; refine (toCastingS_any f2 A2 c2 _ HSRB.out hn2).mono ?_; rintro e uC ⟨rfl, hcC, hr⟩; have HDD := Lib.hid (HDC.out.trans (hcC.mono HDC.out.size)); have HFU := Lib.hid hr.cas; clear hr hcC)
      | (go_simp; go_at_call 43; refine (HIM.out _ _ hn2 HFU.out).mono ?_; rintro e u3 ⟨v3, T3, rfl, hb3, ho3⟩; have hbV := HDD.out.trans (hb3.mono HDD.out.size)))
    all_goals (go_wp2_with fail; go_meet; exact ⟨_, _, rfl, rfl, rfl, hbV, Joins.ownsRow_le ho3 HDD.out.size⟩)
  case rest =>
  clear q0 q1 q2 ql y0 y1 y2 yl HDB HXA HXB HSR tokc
  obtain ⟨vH, TH, rfl, rfl, rfl, hb12, hoH⟩ := hcut
  obtain ⟨AH, cH, rfl⟩ := own_form hoH
  obtain ⟨u12, hwu12⟩ : ∃ u, u = wc := ⟨_, rfl⟩
  subst hwu12
  have hszH : u10.heap.size ≤ u12.heap.size := hb12.size
  have A_11 : Hid (Below w.heap.size w u12) := Lib.hid ((A_10.out).trans (Below.mono hb12 (A_10.out).size))
  have X0_11 : Hid (McAt u12 (w.heap.size) 30 m0) := Lib.hid ((X0_10.out).next hb12)
  have X1_11 : Hid (McAt u12 (w.heap.size + 1) 30 m1) := Lib.hid ((X1_10.out).next hb12)
  have OS_11 : Hid (u12.ownsRow 0 TS 1 (.slice AS L.length cS) L.length (intsZ L)) := Lib.hid (own_below OS_10.out hb12)
  have OM_11 : Hid (u12.ownsRow 0 TG 1 (.slice AG L.length cG) L.length (intsZ (marks 1 L.length))) := Lib.hid (own_below OM_10.out hb12)
  clear A_10 X0_10 X1_10 OS_10 OM_10
  clear hb12
  have OH_11 : Hid (u12.ownsRow 0 TH 1 (.slice AH L.length cH) L.length (intsZ L)) := Lib.hid (own_up hoH)
  clear hoH
  go_wp2_with fail
  refine (eqIntS_any L L _ _ _ _ _ (own_in OH_11.out) (own_in OS_11.out) hmx2 hmx2).mono ?_
  rintro e u13 ⟨rfl, hb13⟩
  rw [show decide (L = L) = true from decide_eq_true rfl]
  have A_12 : Hid (Below w.heap.size w u13) := Lib.hid ((A_11.out).trans (Below.mono hb13 (A_11.out).size))
  have X0_12 : Hid (McAt u13 (w.heap.size) 30 m0) := Lib.hid ((X0_11.out).next hb13)
  have X1_12 : Hid (McAt u13 (w.heap.size + 1) 30 m1) := Lib.hid ((X1_11.out).next hb13)
  have OS_12 : Hid (u13.ownsRow 0 TS 1 (.slice AS L.length cS) L.length (intsZ L)) := Lib.hid (own_below OS_11.out hb13)
  have OM_12 : Hid (u13.ownsRow 0 TG 1 (.slice AG L.length cG) L.length (intsZ (marks 1 L.length))) := Lib.hid (own_below OM_11.out hb13)
  have OH_12 : Hid (u13.ownsRow 0 TH 1 (.slice AH L.length cH) L.length (intsZ L)) := Lib.hid (own_below OH_11.out hb13)
  clear A_11 X0_11 X1_11 OS_11 OM_11 OH_11
  clear hb13
  go_wp2_with fail
  refine (heldIntS_any 1 L.length _ _ _ (own_in OM_12.out) (by omega) (by omega)).mono ?_
  rintro e u14 ⟨rfl, hwu14⟩
  subst hwu14
  go_wp2
  go_ret
  exact ⟨rfl, A_12.out⟩

set_option maxRecDepth 100000 in
theorem lifted (os : Os) (started : os.Started) (H : Type) (enc : TypeId × Value → H) :
    ReturnsInHanded {} Try.checked os 12 .any (Rows.fnExactShareOfMachinesSpec.pre6 enc Try.prog Try.f12 Rows.fnExactShareOfMachinesRow.domain false) (Rows.fnExactShareOfMachinesSpec.post enc Try.prog Try.f12 false true false false) := by
  refine returnsInHanded_of_change (C := Try.checked) own started (by kernel_rfl) Try.func12
    (ChangeSpec.witness6 (enc := enc) (C := Try.checked) false ⟨#[], #[.agg #[.int .i64 0, .int .i64 0, .int .i64 0], .agg #[.int .i64 0, .int .i64 0, .int .i64 0], .slice none 0 0], []⟩ 8 (by kernel_rfl) (by kernel_rfl) (by kernel_rfl) (by kernel_rfl)) ?_
  intro W base args ds gs before hval0 hW hcnd _
  have hval : ∀ (j : Nat) t v, Try.f12.params[j]? = some t → args[j]? = some v → Value.okWide Try.prog W .any base t v := hval0
  have hW' := hW
  obtain ⟨p, q, hA0, hV, rfl, hfz, hnd⟩ := hW
  have hA : DataW.TrodAll enc Try.prog W 0 (fun _ => true) true Try.f12.params.toList args.toList ds p := hA0
  rw [Try.params12] at hA hval
  obtain ⟨v0, vs0, d0, ds0, p0, q0, hargs, rfl, rfl, h0, r0⟩ := trodAll_cons hA
  obtain ⟨v1, vs1, d1, ds1, p1, q1, rfl, rfl, rfl, h1, r1⟩ := trodAll_cons r0
  obtain ⟨v2, vs2, d2, ds2, p2, q2, rfl, rfl, rfl, h2, r2⟩ := trodAll_cons r1
  obtain ⟨rfl, rfl, rfl⟩ := trodAll_nil r2
  obtain rfl : args = #[v0, v1, v2] := by cases args; simp_all
  obtain ⟨rfl, rfl⟩ := trodVars_none hV
  have k0 := h0
  have lt0 : ∀ x ∈ p0, x.block < W.heap.size := by obtain ⟨m, hm⟩ := k0; exact DataW.trod_lt m _ _ _ hm
  have k1 := h1
  have lt1 : ∀ x ∈ p1, x.block < W.heap.size := by obtain ⟨m, hm⟩ := k1; exact DataW.trod_lt m _ _ _ hm
  have k2 := h2
  have lt2 : ∀ x ∈ p2, x.block < W.heap.size := by obtain ⟨m, hm⟩ := k2; exact DataW.trod_lt m _ _ _ hm
  obtain ⟨m0, rfl, wm0⟩ := open_mc (hval 0 30 v0 rfl rfl) h0
  obtain ⟨m1, rfl, wm1⟩ := open_mc (hval 1 30 v1 rfl rfl) h1
  obtain ⟨A2, f2, c2, rfl, hs2, hl2⟩ := open_cas (hval 2 22 v2 rfl rfl) h2
  clear hA0 hval0
  refine (walk m0 m1 A2 f2 c2 W hs2 hl2).mono fun e W' ⟨he, bel⟩ => ?_
  subst he
  exact ⟨_, rfl, _, _, _, [], _, [], hW', trodAll_mk1 (shut_bool Try.underlying4 _), (trodAll_cons_mk (Below.trod laidOut (by kernel_rfl) (of_decide_eq_true (by kernel_rfl)) k0 bel lt0) (trodAll_cons_mk (Below.trod laidOut (by kernel_rfl) (of_decide_eq_true (by kernel_rfl)) k1 bel lt1) (trodAll_cons_mk (Below.trod laidOut (by kernel_rfl) (of_decide_eq_true (by kernel_rfl)) k2 bel lt2) trodAll_mk0))), rfl, bel.frame _, fun h => by cases h⟩

theorem over : Rows.fnExactShareOfMachinesRow.holds Try.pinned (OpenSpec.ofChange Rows.fnExactShareOfMachinesSpec) :=
  OpenClaim.holds_of_wide 12 Try.f12 rfl rfl rfl rfl rfl rfl rfl ⟨rfl, rfl, rfl, rfl, rfl⟩ rfl rfl rfl rfl rfl (by kernel_rfl) Try.func12 (by kernel_rfl)
    (of_decide_eq_true (by kernel_rfl)) (by unfold Func.isWrapper; first | (rw [if_pos (by decide +kernel)]; kernel_rfl) | (rw [if_neg (by decide +kernel)]; exact ⟨rfl, rfl⟩))
    (fun os started H enc _ => lifted os started H enc)

theorem proved : Rows.FnExactShareOfMachinesSaid := over
end Go.Proofs.Ytpocghcdfpcedaa.fnExactShareOfMachines
