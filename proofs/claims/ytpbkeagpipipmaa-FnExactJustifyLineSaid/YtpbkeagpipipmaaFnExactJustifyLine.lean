/-
  FnExactJustifyLine: for every input (a slice of ints, a rule, an int) the law returns true, and what it was given reads as before. Conditions: none beyond the given statement's own.
-/
import Derived.Test.YtpbkeagpipipmaaRows
import Derived.Test.YtpbkeagpipipmaaUf
import Derived.Test.YtpbkeagpipipmaaVr
import Derived.Test.YtpbkeagpipipmaaOpenIz
import Derived.Test.YtpbkeagpipipmaaOpenUa
import Derived.Deep.RegionLaw
import Derived.Deep.DeepCutAuto
import Derived.Test.YtpbkeagpipipmaaTail
import Derived.ProofKit
import Derived.OpenShut
import Derived.ShutString
import Derived.ChangeOld
import Derived.Lib.SmallJoins
namespace Go.Proofs.Ytpbkeagpipipmaa.fnExactJustifyLine
open Go.ChangeShapes Go.WideShapes Go.ChangeAt Go.RowKit Go.Joins
open Go.ChangeMaps (open_string shut_string)
set_option linter.unusedVariables false

theorem own : ownKnob Try.prog.godebug = none := by kernel_rfl
theorem laidOut : laidOutB Try.prog = true := by kernel_rfl

set_option maxRecDepth 100000 in
set_option maxHeartbeats 2000000 in
theorem walk (A0 : Option Addr) (l0 : List Int) (c0 : Nat) (ru1 : Ru) (a2 : Int) (w : World) (hs0 : IntsIn w A0 l0) (hl0 : l0.length ≤ maxLen) (r2 : -9223372036854775808 ≤ a2 ∧ a2 ≤ 9223372036854775807) :
    Calls Try.prog 8 #[.slice A0 l0.length c0, .agg #[.int .i64 ru1.lst, .int .i64 ru1.nrm, .int .i64 ru1.mst], .int .i64 a2] w fun e w' => e = .returned (.bool true) ∧ Below w.heap.size w w' := by
  have HS0 := Lib.hid hs0; clear hs0
  unfold maxLen at hl0
  have HR2 := Lib.hid r2; clear r2
  obtain ⟨w0, hw0⟩ : ∃ w0 : World, w0 = (w.alloc (.cells #[.int .i64 ru1.lst, .int .i64 ru1.nrm, .int .i64 ru1.mst] 49)) := ⟨_, rfl⟩
  have hwz : w0.heap.size = w.heap.size + 1 := by rw [hw0]; simp
  have HWZ := Lib.hid hwz; clear hwz
  have A_0 : Hid (Below w.heap.size w w0) := Lib.hid (show Below _ _ _ by rw [hw0]; exact ((Below.refl _ _).alloc (by simp) _))
  have X1_0 : Hid (RuAt w0 (w.heap.size) 49 ru1) := Lib.hid (show RuAt _ _ _ _ by rw [hw0]; exact (RuAt.new _ _ _))
  have HW0 := Lib.hid hw0; clear hw0
  by_cases hlong0 : (1048576 : Int) < l0.length
  · go_enter Try.func8, Try.ntmps8
    go_wp2
    go_ret
    exact ⟨rfl, by first | exact A_0.out | (rw [HW0.out] at A_0; exact A_0.out)⟩
  have hn0 : l0.length ≤ 1048576 := by omega
  obtain ⟨V0, hV0⟩ : ∃ V, V = jsB l0 ru1 a2 := ⟨_, rfl⟩
  have HV0 := Lib.hid hV0; clear hV0
  have hne0 : (V0 != V0) = false := by simp
  obtain ⟨L, hL⟩ : ∃ L : List Int, L = jsL l0 ru1 a2 := ⟨_, rfl⟩
  have hmx : L.length ≤ 1048576 := by rw [hL]; exact jsL_len l0 ru1 a2
  have HL := Lib.hid hL; clear hL
  have hmx2 : L.length ≤ maxLen := by unfold maxLen; omega
  have HSP : Hid (∀ (W : World) (B0 : Option Addr), l0.length ≤ 1048576 → IntsIn W B0 l0 → Calls Try.prog 16 #[.slice B0 l0.length l0.length, .agg #[.int .i64 ru1.lst, .int .i64 ru1.nrm, .int .i64 ru1.mst], .int .i64 a2] W fun e W' => ∃ v T, e = .returned (.tuple #[v, .bool V0]) ∧ Below W.heap.size W W' ∧ W'.ownsRow W.heap.size T 1 v L.length (intsZ L)) := Lib.hid (by
    rw [HV0.out, HL.out]; exact fun W B0 h0 i0 => specJustifyLine_any l0 B0 l0.length ru1 a2 W i0 h0)
  have HIM : Hid (∀ (W : World) (B0 : Option Addr), l0.length ≤ 1048576 → IntsIn W B0 l0 → Calls Try.prog 15 #[.slice B0 l0.length l0.length, .agg #[.int .i64 ru1.lst, .int .i64 ru1.nrm, .int .i64 ru1.mst], .int .i64 a2] W fun e W' => ∃ v T, e = .returned (.tuple #[v, .bool V0]) ∧ Below W.heap.size W W' ∧ W'.ownsRow W.heap.size T 1 v L.length (intsZ L)) := Lib.hid (by
    rw [HV0.out, HL.out]; exact fun W B0 h0 i0 => implJustifyLine_any l0 B0 l0.length ru1 a2 W i0 h0)
  go_enter Try.func8, Try.ntmps8
  have HDB : Hid (Below w0.heap.size w0 w0.drew) := Lib.hid ((Below.refl _ _).drew)
  have HXA : Hid (RuAt w0.drew (w.heap.size) 49 ru1) := Lib.hid X1_0.out
  have HSR : Hid (IntsIn w0.drew A0 l0) := Lib.hid (HS0.out.below (A_0.out).drew (Nat.le_refl _))
  obtain ⟨q0, q1, q2⟩ := (X1_0.out).cells
  have ql := (X1_0.out).lt
  go_wp2_with fail
  rw [← HW0.out]
  go_cut [7, 8] (fun s7 s8 wx => ∃ v T, s7 = v ∧ s8 = .bool V0 ∧ Below w0.heap.size w0 wx ∧ wx.ownsRow w0.heap.size T 1 v L.length (intsZ L))
  case first =>
    go_region_law (first
      | (go_simp; go_at_call 41; refine (toIntOwn_any l0 A0 c0 _ HSR.out hn0).mono ?_; rintro e uA ⟨rfl, hcA, hrA⟩; have HDA := Lib.hid (HDB.out.trans (hcA.mono HDB.out.size)); have HXB := Lib.hid (HXA.out.next hcA); have HRA := Lib.hid hrA; obtain ⟨z0, z1, z2⟩ := HXB.out.cells; have zl := HXB.out.lt; clear q0 q1 q2 ql hcA hrA)
      | (go_simp; go_at_call 40; refine (toRule_any ru1 _).mono ?_; rintro e uB ⟨rfl, hcB⟩; have HDC := Lib.hid (HDA.out.trans (hcB.mono HDA.out.size)); have HRB := Lib.hid (own_below HRA.out hcB); clear z0 z1 z2 zl hcB)
      | (go_simp; go_at_call 16; refine (HSP.out _ _ hn0 (own_in HRB.out)).mono ?_; rintro e u3 ⟨v3, T3, rfl, hb3, ho3⟩; have hbV := HDC.out.trans (hb3.mono HDC.out.size)))
    all_goals (go_wp2_with fail; go_meet; exact ⟨_, _, rfl, rfl, hbV, Joins.ownsRow_le ho3 HDC.out.size⟩)
  case rest =>
  clear q0 q1 q2 ql HDB HXA HSR
  obtain ⟨vS, TS, rfl, rfl, hb1, hoS⟩ := hcut
  obtain ⟨AS, cS, rfl⟩ := own_form hoS
  obtain ⟨u1, hwu1⟩ : ∃ u, u = wc := ⟨_, rfl⟩
  subst hwu1
  have hszS : w0.heap.size ≤ u1.heap.size := hb1.size
  have ltS : Hid (∀ k, (Value.slice AS L.length cS).ownBlock = some k → k < u1.heap.size) := Lib.hid (own_bound hoS)
  have A_1 : Hid (Below w.heap.size w u1) := Lib.hid ((A_0.out).trans (Below.mono hb1 (A_0.out).size))
  have X1_1 : Hid (RuAt u1 (w.heap.size) 49 ru1) := Lib.hid ((X1_0.out).next hb1)
  clear A_0 X1_0
  clear hb1
  have OS_1 : Hid (u1.ownsRow 0 TS 1 (.slice AS L.length cS) L.length (intsZ L)) := Lib.hid (own_up hoS)
  clear hoS
  have hwle0 : Hid (w.heap.size ≤ u1.heap.size) := Lib.hid (A_1.out).size
  go_wp2_with fail
  refine (toIntOwn_any l0 A0 c0 _ (HS0.out.below A_1.out (by first | exact Nat.le_refl _)) hn0).mono ?_
  rintro e u2 ⟨rfl, hb2, hr2⟩
  have hB2 : u1.heap.size < u2.heap.size := row_lt hr2
  have A_2 : Hid (Below w.heap.size w u2) := Lib.hid ((A_1.out).trans (Below.mono hb2 (A_1.out).size))
  have X1_2 : Hid (RuAt u2 (w.heap.size) 49 ru1) := Lib.hid ((X1_1.out).next hb2)
  have OS_2 : Hid (u2.ownsRow 0 TS 1 (.slice AS L.length cS) L.length (intsZ L)) := Lib.hid (own_below OS_1.out hb2)
  clear A_1 X1_1 OS_1
  clear hb2
  have X_0_2 : Hid (u2.ownsRow 0 3 1 (.slice (some ⟨u1.heap.size, 0, none⟩) l0.length l0.length) l0.length (intsZ l0)) := Lib.hid hr2
  clear hr2
  obtain ⟨q0, q1, q2⟩ := (X1_2.out).cells
  have ql := (X1_2.out).lt
  go_wp2_with fail
  refine (toRule_any ru1 _).mono ?_
  rintro e u3 ⟨rfl, hb3⟩
  clear q0 q1 q2 ql
  have hzhb3 : u2.heap.size ≤ u3.heap.size := hb3.size
  have A_3 : Hid (Below w.heap.size w u3) := Lib.hid ((A_2.out).trans (Below.mono hb3 (A_2.out).size))
  have X1_3 : Hid (RuAt u3 (w.heap.size) 49 ru1) := Lib.hid ((X1_2.out).next hb3)
  have OS_3 : Hid (u3.ownsRow 0 TS 1 (.slice AS L.length cS) L.length (intsZ L)) := Lib.hid (own_below OS_2.out hb3)
  have X_0_3 : Hid (u3.ownsRow 0 3 1 (.slice (some ⟨u1.heap.size, 0, none⟩) l0.length l0.length) l0.length (intsZ l0)) := Lib.hid (own_below X_0_2.out hb3)
  clear A_2 X1_2 OS_2 X_0_2
  clear hb3
  go_wp2_with fail
  refine (HIM.out _ _ hn0 (own_in X_0_3.out)).mono ?_
  intro e u4 hto
  obtain ⟨vG, TG, rfl, hb4, hoG⟩ := hto
  obtain ⟨AG, cG, rfl⟩ := own_form hoG
  have hszG : u3.heap.size ≤ u4.heap.size := hb4.size
  have frG : Hid (∀ k, (Value.slice AG L.length cG).ownBlock = some k → u3.heap.size ≤ k) := Lib.hid (own_lt hoG)
  have A_4 : Hid (Below w.heap.size w u4) := Lib.hid ((A_3.out).trans (Below.mono hb4 (A_3.out).size))
  have X1_4 : Hid (RuAt u4 (w.heap.size) 49 ru1) := Lib.hid ((X1_3.out).next hb4)
  have OS_4 : Hid (u4.ownsRow 0 TS 1 (.slice AS L.length cS) L.length (intsZ L)) := Lib.hid (own_below OS_3.out hb4)
  have X_0_4 : Hid (u4.ownsRow 0 3 1 (.slice (some ⟨u1.heap.size, 0, none⟩) l0.length l0.length) l0.length (intsZ l0)) := Lib.hid (own_below X_0_3.out hb4)
  clear A_3 X1_3 OS_3 X_0_3
  clear hb4
  have OG_4 : Hid (u4.ownsRow 0 TG 1 (.slice AG L.length cG) L.length (intsZ L)) := Lib.hid (own_up hoG)
  clear hoG
  go_wp2_with fail
  refine (eqIntS_any L L _ _ _ _ _ (own_in OG_4.out) (own_in OS_4.out) hmx2 hmx2).mono ?_
  rintro e u5 ⟨rfl, hb5⟩
  rw [show decide (L = L) = true from decide_eq_true rfl]
  have A_5 : Hid (Below w.heap.size w u5) := Lib.hid ((A_4.out).trans (Below.mono hb5 (A_4.out).size))
  have X1_5 : Hid (RuAt u5 (w.heap.size) 49 ru1) := Lib.hid ((X1_4.out).next hb5)
  have OS_5 : Hid (u5.ownsRow 0 TS 1 (.slice AS L.length cS) L.length (intsZ L)) := Lib.hid (own_below OS_4.out hb5)
  have X_0_5 : Hid (u5.ownsRow 0 3 1 (.slice (some ⟨u1.heap.size, 0, none⟩) l0.length l0.length) l0.length (intsZ l0)) := Lib.hid (own_below X_0_4.out hb5)
  have OG_5 : Hid (u5.ownsRow 0 TG 1 (.slice AG L.length cG) L.length (intsZ L)) := Lib.hid (own_below OG_4.out hb5)
  clear A_4 X1_4 OS_4 X_0_4 OG_4
  clear hb5
  go_wp2_with fail
  refine (toIntOwn_any l0 A0 c0 _ (HS0.out.below A_5.out (by first | exact Nat.le_refl _)) hn0).mono ?_
  rintro e u6 ⟨rfl, hb6, hr6⟩
  have hB6 : u5.heap.size < u6.heap.size := row_lt hr6
  have A_6 : Hid (Below w.heap.size w u6) := Lib.hid ((A_5.out).trans (Below.mono hb6 (A_5.out).size))
  have X1_6 : Hid (RuAt u6 (w.heap.size) 49 ru1) := Lib.hid ((X1_5.out).next hb6)
  have OS_6 : Hid (u6.ownsRow 0 TS 1 (.slice AS L.length cS) L.length (intsZ L)) := Lib.hid (own_below OS_5.out hb6)
  have X_0_6 : Hid (u6.ownsRow 0 3 1 (.slice (some ⟨u1.heap.size, 0, none⟩) l0.length l0.length) l0.length (intsZ l0)) := Lib.hid (own_below X_0_5.out hb6)
  have OG_6 : Hid (u6.ownsRow 0 TG 1 (.slice AG L.length cG) L.length (intsZ L)) := Lib.hid (own_below OG_5.out hb6)
  clear A_5 X1_5 OS_5 X_0_5 OG_5
  clear hb6
  have W0_6 : Hid (u6.ownsRow 0 3 1 (.slice (some ⟨u5.heap.size, 0, none⟩) l0.length l0.length) l0.length (intsZ l0)) := Lib.hid hr6
  clear hr6
  go_wp2_with fail
  refine (eqIntS_any l0 l0 _ _ _ _ _ (own_in X_0_6.out) (own_in W0_6.out) (by unfold maxLen; omega) (by unfold maxLen; omega)).mono ?_
  rintro e u7 ⟨rfl, hb7⟩
  rw [show decide (l0 = l0) = true from decide_eq_true rfl]
  clear W0_6
  have A_7 : Hid (Below w.heap.size w u7) := Lib.hid ((A_6.out).trans (Below.mono hb7 (A_6.out).size))
  have X1_7 : Hid (RuAt u7 (w.heap.size) 49 ru1) := Lib.hid ((X1_6.out).next hb7)
  have OS_7 : Hid (u7.ownsRow 0 TS 1 (.slice AS L.length cS) L.length (intsZ L)) := Lib.hid (own_below OS_6.out hb7)
  have X_0_7 : Hid (u7.ownsRow 0 3 1 (.slice (some ⟨u1.heap.size, 0, none⟩) l0.length l0.length) l0.length (intsZ l0)) := Lib.hid (own_below X_0_6.out hb7)
  have OG_7 : Hid (u7.ownsRow 0 TG 1 (.slice AG L.length cG) L.length (intsZ L)) := Lib.hid (own_below OG_6.out hb7)
  clear A_6 X1_6 OS_6 X_0_6 OG_6
  clear hb7
  have hwle : w.heap.size ≤ u1.heap.size := hwle0.out
  go_wp2_with fail
  refine (markIntS_any ((1 : Nat) : Int) l0.length 0 _ _ _ X_0_7.out (by omega) (by omega)).mono ?_
  rintro e u8 ⟨rfl, hg8, _⟩
  rw [show (((1 : Nat) : Int) + (l0.length : Int)) = (((1 + l0.length) : Nat) : Int) from by omega]
  clear X_0_7
  have A_8 : Hid (Below w.heap.size w u8) := Lib.hid ((A_7.out).grown hg8 (A_7.out).size (fun k hk => by have e1 : u1.heap.size = k := Option.some.inj hk; omega))
  have X1_8 : Hid (RuAt u8 (w.heap.size) 49 ru1) := Lib.hid ((hg8.block _ (X1_7.out).lt (fun h => by have e0 := HWZ.out; have e1 : _ = u1.heap.size := Option.some.inj h; omega)).trans X1_7.out)
  have OS_8 : Hid (u8.ownsRow 0 TS 1 (.slice AS L.length cS) L.length (intsZ L)) := Lib.hid (own_grown OS_7.out hg8 (fun k hk e => by have e1 : u1.heap.size = k := Option.some.inj e; have e2 := ltS.out k hk; omega))
  have OG_8 : Hid (u8.ownsRow 0 TG 1 (.slice AG L.length cG) L.length (intsZ L)) := Lib.hid (own_grown OG_7.out hg8 (fun k hk e => by have e1 : u1.heap.size = k := Option.some.inj e; have e2 := frG.out k hk; omega))
  clear A_7 X1_7 OS_7 OG_7
  clear hg8
  obtain ⟨k0, hk0⟩ : ∃ k : Nat, k = (1 + l0.length) := ⟨_, rfl⟩
  rw [← hk0]
  have hkb0 : 1 ≤ k0 ∧ k0 ≤ 1 + 1 * 1048576 := by omega
  clear hk0
  obtain ⟨hka0, hkc0⟩ := hkb0
  have hk0 : ¬ ((k0 : Nat) : Int) < 0 := by omega
  go_wp2_with fail
  refine (eqIntS_any L L _ _ _ _ _ (own_in OG_8.out) (own_in OS_8.out) hmx2 hmx2).mono ?_
  rintro e u9 ⟨rfl, hb9⟩
  rw [show decide (L = L) = true from decide_eq_true rfl]
  have A_9 : Hid (Below w.heap.size w u9) := Lib.hid ((A_8.out).trans (Below.mono hb9 (A_8.out).size))
  have X1_9 : Hid (RuAt u9 (w.heap.size) 49 ru1) := Lib.hid ((X1_8.out).next hb9)
  have OS_9 : Hid (u9.ownsRow 0 TS 1 (.slice AS L.length cS) L.length (intsZ L)) := Lib.hid (own_below OS_8.out hb9)
  have OG_9 : Hid (u9.ownsRow 0 TG 1 (.slice AG L.length cG) L.length (intsZ L)) := Lib.hid (own_below OG_8.out hb9)
  clear A_8 X1_8 OS_8 OG_8
  clear hb9
  go_wp2_with fail
  refine (markIntSE_any 1 L.length 0 _ _ _ _ OG_9.out (by omega) (by omega)).mono ?_
  rintro e u10 ⟨rfl, hg10, om⟩
  have hne : ∀ k, (Value.slice AS L.length cS).ownBlock = some k → (Value.slice AG L.length cG).ownBlock ≠ some k := fun k h1 h2 => by have e1 := ltS.out k h1; have e2 := frG.out k h2; omega
  clear OG_9
  have A_10 : Hid (Below w.heap.size w u10) := Lib.hid ((A_9.out).grown hg10 (A_9.out).size (fun k hk => by have e1 := frG.out k hk; omega))
  have X1_10 : Hid (RuAt u10 (w.heap.size) 49 ru1) := Lib.hid ((hg10.block _ (X1_9.out).lt (fun h => by have e0 := HWZ.out; have e1 := frG.out _ h.symm; omega)).trans X1_9.out)
  have OS_10 : Hid (u10.ownsRow 0 TS 1 (.slice AS L.length cS) L.length (intsZ L)) := Lib.hid (own_grown OS_9.out hg10 hne)
  clear A_9 X1_9 OS_9
  have OM_10 : Hid (u10.ownsRow 0 TG 1 (.slice AG L.length cG) L.length (intsZ (marks 1 L.length))) := Lib.hid om
  have hqm : (1 + (L.length : Int) != 1 + (L.length : Int)) = false := by simp
  clear hg10 om hne
  go_wp2_with fail
  refine (heldIntS_any 1 L.length _ _ _ (own_in OM_10.out) (by omega) (by omega)).mono ?_
  rintro e u11 ⟨rfl, hwu11⟩
  subst hwu11
  -- another call
  have HDB : Hid (Below u10.heap.size u10 u10.drew) := Lib.hid ((Below.refl _ _).drew)
  have HXA : Hid (RuAt u10.drew (w.heap.size) 49 ru1) := Lib.hid X1_10.out
  have HSR : Hid (IntsIn u10.drew A0 l0) := Lib.hid (HS0.out.below (A_10.out).drew (Nat.le_refl _))
  obtain ⟨q0, q1, q2⟩ := (X1_10.out).cells
  have ql := (X1_10.out).lt
  go_wp2_with fail
  go_cut [15, 16] (fun s15 s16 wx => ∃ v T, s15 = v ∧ s16 = .bool V0 ∧ Below u10.heap.size u10 wx ∧ wx.ownsRow u10.heap.size T 1 v L.length (intsZ L))
  case first =>
    go_region_law (first
      | (go_simp; go_at_call 41; refine (toIntOwn_any l0 A0 c0 _ HSR.out hn0).mono ?_; rintro e uA ⟨rfl, hcA, hrA⟩; have HDA := Lib.hid (HDB.out.trans (hcA.mono HDB.out.size)); have HXB := Lib.hid (HXA.out.next hcA); have HRA := Lib.hid hrA; obtain ⟨z0, z1, z2⟩ := HXB.out.cells; have zl := HXB.out.lt; clear q0 q1 q2 ql hcA hrA)
      | (go_simp; go_at_call 40; refine (toRule_any ru1 _).mono ?_; rintro e uB ⟨rfl, hcB⟩; have HDC := Lib.hid (HDA.out.trans (hcB.mono HDA.out.size)); have HRB := Lib.hid (own_below HRA.out hcB); clear z0 z1 z2 zl hcB)
      | (go_simp; go_at_call 15; refine (HIM.out _ _ hn0 (own_in HRB.out)).mono ?_; rintro e u3 ⟨v3, T3, rfl, hb3, ho3⟩; have hbV := HDC.out.trans (hb3.mono HDC.out.size)))
    all_goals (go_wp2_with fail; go_meet; exact ⟨_, _, rfl, rfl, hbV, Joins.ownsRow_le ho3 HDC.out.size⟩)
  case rest =>
  clear q0 q1 q2 ql HDB HXA HSR
  obtain ⟨vH, TH, rfl, rfl, hb12, hoH⟩ := hcut
  obtain ⟨AH, cH, rfl⟩ := own_form hoH
  obtain ⟨u12, hwu12⟩ : ∃ u, u = wc := ⟨_, rfl⟩
  subst hwu12
  have hszH : u10.heap.size ≤ u12.heap.size := hb12.size
  have A_11 : Hid (Below w.heap.size w u12) := Lib.hid ((A_10.out).trans (Below.mono hb12 (A_10.out).size))
  have X1_11 : Hid (RuAt u12 (w.heap.size) 49 ru1) := Lib.hid ((X1_10.out).next hb12)
  have OS_11 : Hid (u12.ownsRow 0 TS 1 (.slice AS L.length cS) L.length (intsZ L)) := Lib.hid (own_below OS_10.out hb12)
  have OM_11 : Hid (u12.ownsRow 0 TG 1 (.slice AG L.length cG) L.length (intsZ (marks 1 L.length))) := Lib.hid (own_below OM_10.out hb12)
  clear A_10 X1_10 OS_10 OM_10
  clear hb12
  have OH_11 : Hid (u12.ownsRow 0 TH 1 (.slice AH L.length cH) L.length (intsZ L)) := Lib.hid (own_up hoH)
  clear hoH
  go_wp2_with fail
  refine (eqIntS_any L L _ _ _ _ _ (own_in OH_11.out) (own_in OS_11.out) hmx2 hmx2).mono ?_
  rintro e u13 ⟨rfl, hb13⟩
  rw [show decide (L = L) = true from decide_eq_true rfl]
  have A_12 : Hid (Below w.heap.size w u13) := Lib.hid ((A_11.out).trans (Below.mono hb13 (A_11.out).size))
  have X1_12 : Hid (RuAt u13 (w.heap.size) 49 ru1) := Lib.hid ((X1_11.out).next hb13)
  have OS_12 : Hid (u13.ownsRow 0 TS 1 (.slice AS L.length cS) L.length (intsZ L)) := Lib.hid (own_below OS_11.out hb13)
  have OM_12 : Hid (u13.ownsRow 0 TG 1 (.slice AG L.length cG) L.length (intsZ (marks 1 L.length))) := Lib.hid (own_below OM_11.out hb13)
  have OH_12 : Hid (u13.ownsRow 0 TH 1 (.slice AH L.length cH) L.length (intsZ L)) := Lib.hid (own_below OH_11.out hb13)
  clear A_11 X1_11 OS_11 OM_11 OH_11
  clear hb13
  go_wp2_with fail
  refine (heldIntS_any 1 L.length _ _ _ (own_in OM_12.out) (by omega) (by omega)).mono ?_
  rintro e u14 ⟨rfl, hwu14⟩
  subst hwu14
  go_wp2
  go_ret
  exact ⟨rfl, A_12.out⟩

set_option maxRecDepth 100000 in
theorem lifted (os : Os) (started : os.Started) (H : Type) (enc : TypeId × Value → H) :
    ReturnsInHanded {} Try.checked os 8 .any (Rows.fnExactJustifyLineSpec.pre6 enc Try.prog Try.f8 Rows.fnExactJustifyLineRow.domain false) (Rows.fnExactJustifyLineSpec.post enc Try.prog Try.f8 false true false false) := by
  refine returnsInHanded_of_change (C := Try.checked) own started (by kernel_rfl) Try.func8
    (ChangeSpec.witness6 (enc := enc) (C := Try.checked) false ⟨#[], #[.slice none 0 0, .agg #[.int .i64 0, .int .i64 0, .int .i64 0], .int .i64 0], []⟩ 8 (by kernel_rfl) (by kernel_rfl) (by kernel_rfl) (by kernel_rfl)) ?_
  intro W base args ds gs before hval0 hW hcnd _
  have hval : ∀ (j : Nat) t v, Try.f8.params[j]? = some t → args[j]? = some v → Value.okWide Try.prog W .any base t v := hval0
  have hW' := hW
  obtain ⟨p, q, hA0, hV, rfl, hfz, hnd⟩ := hW
  have hA : DataW.TrodAll enc Try.prog W 0 (fun _ => true) true Try.f8.params.toList args.toList ds p := hA0
  rw [Try.params8] at hA hval
  obtain ⟨v0, vs0, d0, ds0, p0, q0, hargs, rfl, rfl, h0, r0⟩ := trodAll_cons hA
  obtain ⟨v1, vs1, d1, ds1, p1, q1, rfl, rfl, rfl, h1, r1⟩ := trodAll_cons r0
  obtain ⟨v2, vs2, d2, ds2, p2, q2, rfl, rfl, rfl, h2, r2⟩ := trodAll_cons r1
  obtain ⟨rfl, rfl, rfl⟩ := trodAll_nil r2
  obtain rfl : args = #[v0, v1, v2] := by cases args; simp_all
  obtain ⟨rfl, rfl⟩ := trodVars_none hV
  have k0 := h0
  have lt0 : ∀ x ∈ p0, x.block < W.heap.size := by obtain ⟨m, hm⟩ := k0; exact DataW.trod_lt m _ _ _ hm
  have k1 := h1
  have lt1 : ∀ x ∈ p1, x.block < W.heap.size := by obtain ⟨m, hm⟩ := k1; exact DataW.trod_lt m _ _ _ hm
  have k2 := h2
  have lt2 : ∀ x ∈ p2, x.block < W.heap.size := by obtain ⟨m, hm⟩ := k2; exact DataW.trod_lt m _ _ _ hm
  obtain ⟨A0, f0, c0, rfl, hs0, hl0⟩ := open_intz (hval 0 23 v0 rfl rfl) h0
  obtain ⟨m1, rfl, wm1⟩ := open_ru (hval 1 49 v1 rfl rfl) h1
  obtain ⟨a2, rfl, rfl, rfl, wa2⟩ := open_int Try.underlying3 (hval 2 3 v2 rfl rfl) h2
  clear hA0 hval0
  refine (walk A0 f0 c0 m1 a2 W hs0 hl0 (wf_range wa2)).mono fun e W' ⟨he, bel⟩ => ?_
  subst he
  exact ⟨_, rfl, _, _, _, [], _, [], hW', trodAll_mk1 (shut_bool Try.underlying4 _), (trodAll_cons_mk (Below.trod laidOut (by kernel_rfl) (of_decide_eq_true (by kernel_rfl)) k0 bel lt0) (trodAll_cons_mk (Below.trod laidOut (by kernel_rfl) (of_decide_eq_true (by kernel_rfl)) k1 bel lt1) (trodAll_cons_mk (Below.trod laidOut (by kernel_rfl) (of_decide_eq_true (by kernel_rfl)) k2 bel lt2) trodAll_mk0))), rfl, bel.frame _, fun h => by cases h⟩

theorem over : Rows.fnExactJustifyLineRow.holds Try.pinned (OpenSpec.ofChange Rows.fnExactJustifyLineSpec) :=
  OpenClaim.holds_of_wide 8 Try.f8 rfl rfl rfl rfl rfl rfl rfl ⟨rfl, rfl, rfl, rfl, rfl⟩ rfl rfl rfl rfl rfl (by kernel_rfl) Try.func8 (by kernel_rfl)
    (of_decide_eq_true (by kernel_rfl)) (by unfold Func.isWrapper; first | (rw [if_pos (by decide +kernel)]; kernel_rfl) | (rw [if_neg (by decide +kernel)]; exact ⟨rfl, rfl⟩))
    (fun os started H enc _ => lifted os started H enc)

theorem proved : Rows.FnExactJustifyLineSaid := over
end Go.Proofs.Ytpbkeagpipipmaa.fnExactJustifyLine
