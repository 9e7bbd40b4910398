/-
  FnExactSpacesFor: for every input (a slice of sorts, a slice of strings, a rule, an int) the law returns true, and what it was given reads as before. Conditions: none beyond the given statement's own.
-/
import Derived.Test.YtpbkeagpipipmaaRows
import Derived.Test.YtpbkeagpipipmaaUt
import Derived.Test.YtpbkeagpipipmaaVr
import Derived.Test.YtpbkeagpipipmaaOpenIz
import Derived.Test.YtpbkeagpipipmaaOpenUa
import Derived.Test.YtpbkeagpipipmaaOpenS
import Derived.Test.YtpbkeagpipipmaaTos
import Derived.Deep.RegionLaw
import Derived.Deep.DeepCutAuto
import Derived.Test.YtpbkeagpipipmaaTail
import Derived.ProofKit
import Derived.OpenShut
import Derived.ShutString
import Derived.ChangeOld
import Derived.Lib.SmallJoins
namespace Go.Proofs.Ytpbkeagpipipmaa.fnExactSpacesFor
open Go.ChangeShapes Go.WideShapes Go.ChangeAt Go.RowKit Go.Joins
open Go.ChangeMaps (open_string shut_string)
set_option linter.unusedVariables false

theorem own : ownKnob Try.prog.godebug = none := by kernel_rfl
theorem laidOut : laidOutB Try.prog = true := by kernel_rfl

set_option maxRecDepth 100000 in
set_option maxHeartbeats 2000000 in
theorem walk (A0 : Option Addr) (f0 : Fnt) (c0 : Nat) (A1 : Option Addr) (s1 : List ByteArray) (c1 : Nat) (ru2 : Ru) (a3 : Int) (w : World) (hs0 : S1.SortsIn w 0 A0 f0) (ho0 : S1.CodesOk f0) (hl0 : f0.length ≤ maxLen) (hs1 : S1.StrsIn w A1 s1) (ho1 : S1.StrsOk s1) (hl1 : s1.length ≤ maxLen) (r3 : -9223372036854775808 ≤ a3 ∧ a3 ≤ 9223372036854775807) :
    Calls Try.prog 13 #[.slice A0 f0.length c0, .slice A1 s1.length c1, .agg #[.int .i64 ru2.lst, .int .i64 ru2.nrm, .int .i64 ru2.mst], .int .i64 a3] w fun e w' => e = .returned (.bool true) ∧ Below w.heap.size w w' := by
  have HS0 := Lib.hid hs0; clear hs0
  unfold maxLen at hl0
  have HO0 := Lib.hid ho0; clear ho0
  have HS1 := Lib.hid hs1; clear hs1
  unfold maxLen at hl1
  have HO1 := Lib.hid ho1; clear ho1
  have HR3 := Lib.hid r3; clear r3
  obtain ⟨w0, hw0⟩ : ∃ w0 : World, w0 = (w.alloc (.cells #[.int .i64 ru2.lst, .int .i64 ru2.nrm, .int .i64 ru2.mst] 49)) := ⟨_, rfl⟩
  have hwz : w0.heap.size = w.heap.size + 1 := by rw [hw0]; simp
  have HWZ := Lib.hid hwz; clear hwz
  have A_0 : Hid (Below w.heap.size w w0) := Lib.hid (show Below _ _ _ by rw [hw0]; exact ((Below.refl _ _).alloc (by simp) _))
  have X2_0 : Hid (RuAt w0 (w.heap.size) 49 ru2) := Lib.hid (show RuAt _ _ _ _ by rw [hw0]; exact (RuAt.new _ _ _))
  have HW0 := Lib.hid hw0; clear hw0
  obtain ⟨V0, hV0⟩ : ∃ V, V = sfB f0 s1 ru2 a3 := ⟨_, rfl⟩
  have HV0 := Lib.hid hV0; clear hV0
  have hne0 : (V0 != V0) = false := by simp
  obtain ⟨L, hL⟩ : ∃ L : List Int, L = sfL f0 s1 ru2 a3 := ⟨_, rfl⟩
  have hmx : L.length ≤ 1048576 := by rw [hL]; exact sfL_len f0 s1 ru2 a3
  have HL := Lib.hid hL; clear hL
  have hmx2 : L.length ≤ maxLen := by unfold maxLen; omega
  have HSP : Hid (∀ (W : World) (B0 : Option Addr) (B1 : Option Addr), f0.length ≤ 1048576 → s1.length ≤ 1048576 → S1.SortsIn W 0 B0 f0 → S1.StrsIn W B1 s1 → Calls Try.prog 38 #[.slice B0 f0.length f0.length, .slice B1 s1.length s1.length, .agg #[.int .i64 ru2.lst, .int .i64 ru2.nrm, .int .i64 ru2.mst], .int .i64 a3] W fun e W' => ∃ v T, e = .returned (.tuple #[v, .bool V0]) ∧ Below W.heap.size W W' ∧ W'.ownsRow W.heap.size T 1 v L.length (intsZ L)) := Lib.hid (by
    rw [HV0.out, HL.out]; exact fun W B0 B1 h0 h1 i0 i1 => specSpacesFor_any f0 B0 f0.length s1 B1 s1.length ru2 a3 W i0 h0 HO0.out i1 HO1.out h1)
  have HIM : Hid (∀ (W : World) (B0 : Option Addr) (B1 : Option Addr), f0.length ≤ 1048576 → s1.length ≤ 1048576 → S1.SortsIn W 0 B0 f0 → S1.StrsIn W B1 s1 → Calls Try.prog 37 #[.slice B0 f0.length f0.length, .slice B1 s1.length s1.length, .agg #[.int .i64 ru2.lst, .int .i64 ru2.nrm, .int .i64 ru2.mst], .int .i64 a3] W fun e W' => ∃ v T, e = .returned (.tuple #[v, .bool V0]) ∧ Below W.heap.size W W' ∧ W'.ownsRow W.heap.size T 1 v L.length (intsZ L)) := Lib.hid (by
    rw [HV0.out, HL.out]; exact fun W B0 B1 h0 h1 i0 i1 => implSpacesFor_any f0 B0 f0.length s1 B1 s1.length ru2 a3 W i0 h0 HO0.out i1 HO1.out h1)
  go_enter Try.func13, Try.ntmps13
  go_wp2_with fail
  rw [← HW0.out]
  have hfin0 := S1.sz_len f0
  have hle0 := S1.sz_range f0 1048576 (by omega)
  refine (S1.szSortS_any f0 A0 c0 1048576 0 _ (HS0.out.below A_0.out (Nat.le_refl _)) HO0.out (by unfold maxLen; omega) (by omega) (by omega)).mono ?_
  rintro e u1 ⟨rfl, hb1⟩
  have A_1 : Hid (Below w.heap.size w u1) := Lib.hid ((A_0.out).trans (Below.mono hb1 (A_0.out).size))
  have X2_1 : Hid (RuAt u1 (w.heap.size) 49 ru2) := Lib.hid ((X2_0.out).next hb1)
  clear A_0 X2_0
  clear hb1
  generalize S1.szSortSF f0 1048576 = z0 at *
  by_cases hz0 : z0 < 0
  · go_wp2
    go_ret
    exact ⟨rfl, A_1.out⟩
  have hn0 : f0.length ≤ 1048576 := hfin0 (by omega)
  clear hfin0
  go_wp2_with fail
  have hfin1 := S1.szStrs_len s1 z0 (by omega)
  refine (S1.szStringS_any s1 A1 c1 z0 _ (HS1.out.below A_1.out (Nat.le_refl _)) HO1.out (by unfold maxLen; omega) (by omega) (by omega)).mono ?_
  rintro e u2 ⟨rfl, hb2⟩
  have A_2 : Hid (Below w.heap.size w u2) := Lib.hid ((A_1.out).trans (Below.mono hb2 (A_1.out).size))
  have X2_2 : Hid (RuAt u2 (w.heap.size) 49 ru2) := Lib.hid ((X2_1.out).next hb2)
  clear A_1 X2_1
  clear hb2
  generalize S1.szStringSF s1 z0 = z1 at *
  by_cases hz1 : z1 < 0
  · go_wp2
    go_ret
    exact ⟨rfl, A_2.out⟩
  have hn1 : s1.length ≤ 1048576 := hfin1 (by omega)
  clear hfin1
  have HDB : Hid (Below u2.heap.size u2 u2.drew) := Lib.hid ((Below.refl _ _).drew)
  have HXA : Hid (RuAt u2.drew (w.heap.size) 49 ru2) := Lib.hid X2_2.out
  have HSR0 : Hid (S1.SortsIn u2.drew 0 A0 f0) := Lib.hid (HS0.out.below (A_2.out).drew (Nat.le_refl _))
  have HSR1 : Hid (S1.StrsIn u2.drew A1 s1) := Lib.hid (HS1.out.below (A_2.out).drew (Nat.le_refl _))
  obtain ⟨q0, q1, q2⟩ := (X2_2.out).cells
  have ql := (X2_2.out).lt
  go_wp2_with fail
  go_cut [10, 11] (fun s10 s11 wx => ∃ v T, s10 = v ∧ s11 = .bool V0 ∧ Below u2.heap.size u2 wx ∧ wx.ownsRow u2.heap.size T 1 v L.length (intsZ L))
  case first =>
    go_region_law (first
      | (go_simp; go_at_call 47; refine (S1.toSortOwn_any f0 A0 c0 _ HSR0.out hn0).mono ?_; rintro e uA0 ⟨rfl, hcA, hrA⟩; have HDA0 := Lib.hid (HDB.out.trans (hcA.mono HDB.out.size)); have HXB0 := Lib.hid (HXA.out.next hcA); have HRA0_1 := Lib.hid hrA; have HSQ1_1 := Lib.hid (HSR1.out.below hcA (Nat.le_refl _)); obtain ⟨z00, z01, z02⟩ := HXB0.out.cells; have z0l := HXB0.out.lt; clear q0 q1 q2 ql hcA hrA)
      | (go_simp; go_at_call 48; refine (S1.toStrOwn_any s1 A1 c1 _ HSQ1_1.out hn1).mono ?_; rintro e uA1 ⟨rfl, hcA, hrA⟩; have HDA1 := Lib.hid (HDA0.out.trans (hcA.mono HDA0.out.size)); have HXB1 := Lib.hid (HXB0.out.next hcA); have HRA1_2 := Lib.hid hrA; have HRA0_2 := Lib.hid (own_below HRA0_1.out hcA); obtain ⟨z10, z11, z12⟩ := HXB1.out.cells; have z1l := HXB1.out.lt; clear z00 z01 z02 z0l hcA hrA)
      | (go_simp; go_at_call 40; refine (toRule_any ru2 _).mono ?_; rintro e uB ⟨rfl, hcB⟩; have HDC := Lib.hid (HDA1.out.trans (hcB.mono HDA1.out.size)); have HRB0 := Lib.hid (own_below HRA0_2.out hcB); have HRB1 := Lib.hid (own_below HRA1_2.out hcB); clear z10 z11 z12 z1l hcB)
      | (go_simp; go_at_call 38; refine (HSP.out _ _ _ hn0 hn1 (S1.own_in_f HRB0.out) (S1.own_in_s HRB1.out)).mono ?_; rintro e u3 ⟨v3, T3, rfl, hb3, ho3⟩; have hbV := HDC.out.trans (hb3.mono HDC.out.size)))
    all_goals (go_wp2_with fail; go_meet; exact ⟨_, _, rfl, rfl, hbV, Joins.ownsRow_le ho3 HDC.out.size⟩)
  case rest =>
  clear q0 q1 q2 ql HDB HXA HSR0 HSR1
  obtain ⟨vS, TS, rfl, rfl, hb3, hoS⟩ := hcut
  obtain ⟨AS, cS, rfl⟩ := own_form hoS
  obtain ⟨u3, hwu3⟩ : ∃ u, u = wc := ⟨_, rfl⟩
  subst hwu3
  have hszS : u2.heap.size ≤ u3.heap.size := hb3.size
  have ltS : Hid (∀ k, (Value.slice AS L.length cS).ownBlock = some k → k < u3.heap.size) := Lib.hid (own_bound hoS)
  have A_3 : Hid (Below w.heap.size w u3) := Lib.hid ((A_2.out).trans (Below.mono hb3 (A_2.out).size))
  have X2_3 : Hid (RuAt u3 (w.heap.size) 49 ru2) := Lib.hid ((X2_2.out).next hb3)
  clear A_2 X2_2
  clear hb3
  have OS_3 : Hid (u3.ownsRow 0 TS 1 (.slice AS L.length cS) L.length (intsZ L)) := Lib.hid (own_up hoS)
  clear hoS
  have hwle0 : Hid (w.heap.size ≤ u3.heap.size) := Lib.hid (A_3.out).size
  have hwlt0 : Hid (w.heap.size < u3.heap.size) := Lib.hid (X2_3.out).lt
  go_wp2_with fail
  refine (S1.toSortOwn_any f0 A0 c0 _ (HS0.out.below A_3.out (by first | exact Nat.le_refl _)) hn0).mono ?_
  rintro e u4 ⟨rfl, hb4, hr4⟩
  have hB4 : u3.heap.size < u4.heap.size := row_lt hr4
  have A_4 : Hid (Below w.heap.size w u4) := Lib.hid ((A_3.out).trans (Below.mono hb4 (A_3.out).size))
  have X2_4 : Hid (RuAt u4 (w.heap.size) 49 ru2) := Lib.hid ((X2_3.out).next hb4)
  have OS_4 : Hid (u4.ownsRow 0 TS 1 (.slice AS L.length cS) L.length (intsZ L)) := Lib.hid (own_below OS_3.out hb4)
  clear A_3 X2_3 OS_3
  clear hb4
  have X_0_4 : Hid (u4.ownsRow 0 91 2 (.slice (some ⟨u3.heap.size, 0, none⟩) f0.length f0.length) f0.length (S1.flat f0)) := Lib.hid hr4
  clear hr4
  go_wp2_with fail
  refine (S1.toStrOwn_any s1 A1 c1 _ (HS1.out.below A_4.out (by first | exact Nat.le_refl _)) hn1).mono ?_
  rintro e u5 ⟨rfl, hb5, hr5⟩
  have hB5 : u4.heap.size < u5.heap.size := row_lt hr5
  have A_5 : Hid (Below w.heap.size w u5) := Lib.hid ((A_4.out).trans (Below.mono hb5 (A_4.out).size))
  have X2_5 : Hid (RuAt u5 (w.heap.size) 49 ru2) := Lib.hid ((X2_4.out).next hb5)
  have OS_5 : Hid (u5.ownsRow 0 TS 1 (.slice AS L.length cS) L.length (intsZ L)) := Lib.hid (own_below OS_4.out hb5)
  have X_0_5 : Hid (u5.ownsRow 0 91 2 (.slice (some ⟨u3.heap.size, 0, none⟩) f0.length f0.length) f0.length (S1.flat f0)) := Lib.hid (own_below X_0_4.out hb5)
  clear A_4 X2_4 OS_4 X_0_4
  clear hb5
  have X_1_5 : Hid (u5.ownsRow 0 9 1 (.slice (some ⟨u4.heap.size, 0, none⟩) s1.length s1.length) s1.length (S1.strs s1)) := Lib.hid hr5
  clear hr5
  obtain ⟨q0, q1, q2⟩ := (X2_5.out).cells
  have ql := (X2_5.out).lt
  go_wp2_with fail
  refine (toRule_any ru2 _).mono ?_
  rintro e u6 ⟨rfl, hb6⟩
  clear q0 q1 q2 ql
  have hzhb6 : u5.heap.size ≤ u6.heap.size := hb6.size
  have A_6 : Hid (Below w.heap.size w u6) := Lib.hid ((A_5.out).trans (Below.mono hb6 (A_5.out).size))
  have X2_6 : Hid (RuAt u6 (w.heap.size) 49 ru2) := Lib.hid ((X2_5.out).next hb6)
  have OS_6 : Hid (u6.ownsRow 0 TS 1 (.slice AS L.length cS) L.length (intsZ L)) := Lib.hid (own_below OS_5.out hb6)
  have X_0_6 : Hid (u6.ownsRow 0 91 2 (.slice (some ⟨u3.heap.size, 0, none⟩) f0.length f0.length) f0.length (S1.flat f0)) := Lib.hid (own_below X_0_5.out hb6)
  have X_1_6 : Hid (u6.ownsRow 0 9 1 (.slice (some ⟨u4.heap.size, 0, none⟩) s1.length s1.length) s1.length (S1.strs s1)) := Lib.hid (own_below X_1_5.out hb6)
  clear A_5 X2_5 OS_5 X_0_5 X_1_5
  clear hb6
  go_wp2_with fail
  refine (HIM.out _ _ _ hn0 hn1 (S1.own_in_f X_0_6.out) (S1.own_in_s X_1_6.out)).mono ?_
  intro e u7 hto
  obtain ⟨vG, TG, rfl, hb7, hoG⟩ := hto
  obtain ⟨AG, cG, rfl⟩ := own_form hoG
  have hszG : u6.heap.size ≤ u7.heap.size := hb7.size
  have frG : Hid (∀ k, (Value.slice AG L.length cG).ownBlock = some k → u6.heap.size ≤ k) := Lib.hid (own_lt hoG)
  have A_7 : Hid (Below w.heap.size w u7) := Lib.hid ((A_6.out).trans (Below.mono hb7 (A_6.out).size))
  have X2_7 : Hid (RuAt u7 (w.heap.size) 49 ru2) := Lib.hid ((X2_6.out).next hb7)
  have OS_7 : Hid (u7.ownsRow 0 TS 1 (.slice AS L.length cS) L.length (intsZ L)) := Lib.hid (own_below OS_6.out hb7)
  have X_0_7 : Hid (u7.ownsRow 0 91 2 (.slice (some ⟨u3.heap.size, 0, none⟩) f0.length f0.length) f0.length (S1.flat f0)) := Lib.hid (own_below X_0_6.out hb7)
  have X_1_7 : Hid (u7.ownsRow 0 9 1 (.slice (some ⟨u4.heap.size, 0, none⟩) s1.length s1.length) s1.length (S1.strs s1)) := Lib.hid (own_below X_1_6.out hb7)
  clear A_6 X2_6 OS_6 X_0_6 X_1_6
  clear hb7
  have OG_7 : Hid (u7.ownsRow 0 TG 1 (.slice AG L.length cG) L.length (intsZ L)) := Lib.hid (own_up hoG)
  clear hoG
  go_wp2_with fail
  refine (eqIntS_any L L _ _ _ _ _ (own_in OG_7.out) (own_in OS_7.out) hmx2 hmx2).mono ?_
  rintro e u8 ⟨rfl, hb8⟩
  rw [show decide (L = L) = true from decide_eq_true rfl]
  have A_8 : Hid (Below w.heap.size w u8) := Lib.hid ((A_7.out).trans (Below.mono hb8 (A_7.out).size))
  have X2_8 : Hid (RuAt u8 (w.heap.size) 49 ru2) := Lib.hid ((X2_7.out).next hb8)
  have OS_8 : Hid (u8.ownsRow 0 TS 1 (.slice AS L.length cS) L.length (intsZ L)) := Lib.hid (own_below OS_7.out hb8)
  have X_0_8 : Hid (u8.ownsRow 0 91 2 (.slice (some ⟨u3.heap.size, 0, none⟩) f0.length f0.length) f0.length (S1.flat f0)) := Lib.hid (own_below X_0_7.out hb8)
  have X_1_8 : Hid (u8.ownsRow 0 9 1 (.slice (some ⟨u4.heap.size, 0, none⟩) s1.length s1.length) s1.length (S1.strs s1)) := Lib.hid (own_below X_1_7.out hb8)
  have OG_8 : Hid (u8.ownsRow 0 TG 1 (.slice AG L.length cG) L.length (intsZ L)) := Lib.hid (own_below OG_7.out hb8)
  clear A_7 X2_7 OS_7 X_0_7 X_1_7 OG_7
  clear hb8
  go_wp2_with fail
  refine (S1.toSortOwn_any f0 A0 c0 _ (HS0.out.below A_8.out (by first | exact Nat.le_refl _)) hn0).mono ?_
  rintro e u9 ⟨rfl, hb9, hr9⟩
  have hB9 : u8.heap.size < u9.heap.size := row_lt hr9
  have A_9 : Hid (Below w.heap.size w u9) := Lib.hid ((A_8.out).trans (Below.mono hb9 (A_8.out).size))
  have X2_9 : Hid (RuAt u9 (w.heap.size) 49 ru2) := Lib.hid ((X2_8.out).next hb9)
  have OS_9 : Hid (u9.ownsRow 0 TS 1 (.slice AS L.length cS) L.length (intsZ L)) := Lib.hid (own_below OS_8.out hb9)
  have X_0_9 : Hid (u9.ownsRow 0 91 2 (.slice (some ⟨u3.heap.size, 0, none⟩) f0.length f0.length) f0.length (S1.flat f0)) := Lib.hid (own_below X_0_8.out hb9)
  have X_1_9 : Hid (u9.ownsRow 0 9 1 (.slice (some ⟨u4.heap.size, 0, none⟩) s1.length s1.length) s1.length (S1.strs s1)) := Lib.hid (own_below X_1_8.out hb9)
  have OG_9 : Hid (u9.ownsRow 0 TG 1 (.slice AG L.length cG) L.length (intsZ L)) := Lib.hid (own_below OG_8.out hb9)
  clear A_8 X2_8 OS_8 X_0_8 X_1_8 OG_8
  clear hb9
  have W0_9 : Hid (u9.ownsRow 0 91 2 (.slice (some ⟨u8.heap.size, 0, none⟩) f0.length f0.length) f0.length (S1.flat f0)) := Lib.hid hr9
  clear hr9
  go_wp2_with fail
  refine (S1.eqSortS_any f0 f0 _ _ _ _ 0 0 _ (S1.own_in_f X_0_9.out) (S1.own_in_f W0_9.out) (by unfold maxLen; omega) (by unfold maxLen; omega)).mono ?_
  rintro e u10 ⟨rfl, hb10⟩
  rw [show decide (f0 = f0) = true from decide_eq_true rfl]
  clear W0_9
  have A_10 : Hid (Below w.heap.size w u10) := Lib.hid ((A_9.out).trans (Below.mono hb10 (A_9.out).size))
  have X2_10 : Hid (RuAt u10 (w.heap.size) 49 ru2) := Lib.hid ((X2_9.out).next hb10)
  have OS_10 : Hid (u10.ownsRow 0 TS 1 (.slice AS L.length cS) L.length (intsZ L)) := Lib.hid (own_below OS_9.out hb10)
  have X_0_10 : Hid (u10.ownsRow 0 91 2 (.slice (some ⟨u3.heap.size, 0, none⟩) f0.length f0.length) f0.length (S1.flat f0)) := Lib.hid (own_below X_0_9.out hb10)
  have X_1_10 : Hid (u10.ownsRow 0 9 1 (.slice (some ⟨u4.heap.size, 0, none⟩) s1.length s1.length) s1.length (S1.strs s1)) := Lib.hid (own_below X_1_9.out hb10)
  have OG_10 : Hid (u10.ownsRow 0 TG 1 (.slice AG L.length cG) L.length (intsZ L)) := Lib.hid (own_below OG_9.out hb10)
  clear A_9 X2_9 OS_9 X_0_9 X_1_9 OG_9
  clear hb10
  go_wp2_with fail
  refine (S1.toStrOwn_any s1 A1 c1 _ (HS1.out.below A_10.out (by first | exact Nat.le_refl _)) hn1).mono ?_
  rintro e u11 ⟨rfl, hb11, hr11⟩
  have hB11 : u10.heap.size < u11.heap.size := row_lt hr11
  have A_11 : Hid (Below w.heap.size w u11) := Lib.hid ((A_10.out).trans (Below.mono hb11 (A_10.out).size))
  have X2_11 : Hid (RuAt u11 (w.heap.size) 49 ru2) := Lib.hid ((X2_10.out).next hb11)
  have OS_11 : Hid (u11.ownsRow 0 TS 1 (.slice AS L.length cS) L.length (intsZ L)) := Lib.hid (own_below OS_10.out hb11)
  have X_0_11 : Hid (u11.ownsRow 0 91 2 (.slice (some ⟨u3.heap.size, 0, none⟩) f0.length f0.length) f0.length (S1.flat f0)) := Lib.hid (own_below X_0_10.out hb11)
  have X_1_11 : Hid (u11.ownsRow 0 9 1 (.slice (some ⟨u4.heap.size, 0, none⟩) s1.length s1.length) s1.length (S1.strs s1)) := Lib.hid (own_below X_1_10.out hb11)
  have OG_11 : Hid (u11.ownsRow 0 TG 1 (.slice AG L.length cG) L.length (intsZ L)) := Lib.hid (own_below OG_10.out hb11)
  clear A_10 X2_10 OS_10 X_0_10 X_1_10 OG_10
  clear hb11
  have W1_11 : Hid (u11.ownsRow 0 9 1 (.slice (some ⟨u10.heap.size, 0, none⟩) s1.length s1.length) s1.length (S1.strs s1)) := Lib.hid hr11
  clear hr11
  go_wp2_with fail
  refine (S1.eqStringS_any s1 s1 _ _ _ _ _ (S1.own_in_s X_1_11.out) (S1.own_in_s W1_11.out) (by unfold maxLen; omega) (by unfold maxLen; omega)).mono ?_
  rintro e u12 ⟨rfl, hb12⟩
  rw [show decide (s1 = s1) = true from decide_eq_true rfl]
  clear W1_11
  have A_12 : Hid (Below w.heap.size w u12) := Lib.hid ((A_11.out).trans (Below.mono hb12 (A_11.out).size))
  have X2_12 : Hid (RuAt u12 (w.heap.size) 49 ru2) := Lib.hid ((X2_11.out).next hb12)
  have OS_12 : Hid (u12.ownsRow 0 TS 1 (.slice AS L.length cS) L.length (intsZ L)) := Lib.hid (own_below OS_11.out hb12)
  have X_0_12 : Hid (u12.ownsRow 0 91 2 (.slice (some ⟨u3.heap.size, 0, none⟩) f0.length f0.length) f0.length (S1.flat f0)) := Lib.hid (own_below X_0_11.out hb12)
  have X_1_12 : Hid (u12.ownsRow 0 9 1 (.slice (some ⟨u4.heap.size, 0, none⟩) s1.length s1.length) s1.length (S1.strs s1)) := Lib.hid (own_below X_1_11.out hb12)
  have OG_12 : Hid (u12.ownsRow 0 TG 1 (.slice AG L.length cG) L.length (intsZ L)) := Lib.hid (own_below OG_11.out hb12)
  clear A_11 X2_11 OS_11 X_0_11 X_1_11 OG_11
  clear hb12
  have hwle : w.heap.size ≤ u3.heap.size := hwle0.out
  have hwlt : w.heap.size < u3.heap.size := hwlt0.out
  go_wp2_with fail
  refine (S1.markSortS_any 1 f0.length 0 _ _ _ X_0_12.out (by omega) (by omega)).mono ?_
  rintro e u13 ⟨rfl, hg13, _⟩
  clear X_0_12
  have A_13 : Hid (Below w.heap.size w u13) := Lib.hid ((A_12.out).grown hg13 (A_12.out).size (fun k hk => by have e1 : u3.heap.size = k := Option.some.inj hk; omega))
  have X2_13 : Hid (RuAt u13 (w.heap.size) 49 ru2) := Lib.hid ((hg13.block _ (X2_12.out).lt (fun h => by have e0 := HWZ.out; have e1 : _ = u3.heap.size := Option.some.inj h; omega)).trans X2_12.out)
  have OS_13 : Hid (u13.ownsRow 0 TS 1 (.slice AS L.length cS) L.length (intsZ L)) := Lib.hid (own_grown OS_12.out hg13 (fun k hk e => by have e1 : u3.heap.size = k := Option.some.inj e; have e2 := ltS.out k hk; omega))
  have X_1_13 : Hid (u13.ownsRow 0 9 1 (.slice (some ⟨u4.heap.size, 0, none⟩) s1.length s1.length) s1.length (S1.strs s1)) := Lib.hid (own_grown X_1_12.out hg13 (fun k hk e => by have e1 : u3.heap.size = k := Option.some.inj e; have e2 : u4.heap.size = k := Option.some.inj hk; omega))
  have OG_13 : Hid (u13.ownsRow 0 TG 1 (.slice AG L.length cG) L.length (intsZ L)) := Lib.hid (own_grown OG_12.out hg13 (fun k hk e => by have e1 : u3.heap.size = k := Option.some.inj e; have e2 := frG.out k hk; omega))
  clear A_12 X2_12 OS_12 X_1_12 OG_12
  clear hg13
  obtain ⟨k0, hk0⟩ : ∃ k : Nat, k = (1 + 2 * f0.length) := ⟨_, rfl⟩
  rw [← hk0]
  have hkb0 : 1 ≤ k0 ∧ k0 ≤ 1 + 2 * 1048576 := by omega
  clear hk0
  obtain ⟨hka0, hkc0⟩ := hkb0
  go_wp2_with fail
  refine (S1.markStringS_any k0 s1.length 0 _ _ _ X_1_13.out (by omega) (by omega)).mono ?_
  rintro e u14 ⟨rfl, hg14, _⟩
  clear X_1_13
  have A_14 : Hid (Below w.heap.size w u14) := Lib.hid ((A_13.out).grown hg14 (A_13.out).size (fun k hk => by have e1 : u4.heap.size = k := Option.some.inj hk; omega))
  have X2_14 : Hid (RuAt u14 (w.heap.size) 49 ru2) := Lib.hid ((hg14.block _ (X2_13.out).lt (fun h => by have e0 := HWZ.out; have e1 : _ = u4.heap.size := Option.some.inj h; omega)).trans X2_13.out)
  have OS_14 : Hid (u14.ownsRow 0 TS 1 (.slice AS L.length cS) L.length (intsZ L)) := Lib.hid (own_grown OS_13.out hg14 (fun k hk e => by have e1 : u4.heap.size = k := Option.some.inj e; have e2 := ltS.out k hk; omega))
  have OG_14 : Hid (u14.ownsRow 0 TG 1 (.slice AG L.length cG) L.length (intsZ L)) := Lib.hid (own_grown OG_13.out hg14 (fun k hk e => by have e1 : u4.heap.size = k := Option.some.inj e; have e2 := frG.out k hk; omega))
  clear A_13 X2_13 OS_13 OG_13
  clear hg14
  obtain ⟨k1, hk1⟩ : ∃ k : Nat, k = (k0 + s1.length) := ⟨_, rfl⟩
  rw [← hk1]
  have hkb1 : 1 ≤ k1 ∧ k1 ≤ 1 + 3 * 1048576 := by omega
  clear hk1
  obtain ⟨hka1, hkc1⟩ := hkb1
  have hk0 : ¬ ((k1 : Nat) : Int) < 0 := by omega
  go_wp2_with fail
  refine (eqIntS_any L L _ _ _ _ _ (own_in OG_14.out) (own_in OS_14.out) hmx2 hmx2).mono ?_
  rintro e u15 ⟨rfl, hb15⟩
  rw [show decide (L = L) = true from decide_eq_true rfl]
  have A_15 : Hid (Below w.heap.size w u15) := Lib.hid ((A_14.out).trans (Below.mono hb15 (A_14.out).size))
  have X2_15 : Hid (RuAt u15 (w.heap.size) 49 ru2) := Lib.hid ((X2_14.out).next hb15)
  have OS_15 : Hid (u15.ownsRow 0 TS 1 (.slice AS L.length cS) L.length (intsZ L)) := Lib.hid (own_below OS_14.out hb15)
  have OG_15 : Hid (u15.ownsRow 0 TG 1 (.slice AG L.length cG) L.length (intsZ L)) := Lib.hid (own_below OG_14.out hb15)
  clear A_14 X2_14 OS_14 OG_14
  clear hb15
  go_wp2_with fail
  refine (markIntSE_any 1 L.length 0 _ _ _ _ OG_15.out (by omega) (by omega)).mono ?_
  rintro e u16 ⟨rfl, hg16, om⟩
  have hne : ∀ k, (Value.slice AS L.length cS).ownBlock = some k → (Value.slice AG L.length cG).ownBlock ≠ some k := fun k h1 h2 => by have e1 := ltS.out k h1; have e2 := frG.out k h2; omega
  clear OG_15
  have A_16 : Hid (Below w.heap.size w u16) := Lib.hid ((A_15.out).grown hg16 (A_15.out).size (fun k hk => by have e1 := frG.out k hk; omega))
  have X2_16 : Hid (RuAt u16 (w.heap.size) 49 ru2) := Lib.hid ((hg16.block _ (X2_15.out).lt (fun h => by have e0 := HWZ.out; have e1 := frG.out _ h.symm; omega)).trans X2_15.out)
  have OS_16 : Hid (u16.ownsRow 0 TS 1 (.slice AS L.length cS) L.length (intsZ L)) := Lib.hid (own_grown OS_15.out hg16 hne)
  clear A_15 X2_15 OS_15
  have OM_16 : Hid (u16.ownsRow 0 TG 1 (.slice AG L.length cG) L.length (intsZ (marks 1 L.length))) := Lib.hid om
  have hqm : (1 + (L.length : Int) != 1 + (L.length : Int)) = false := by simp
  clear hg16 om hne
  go_wp2_with fail
  refine (heldIntS_any 1 L.length _ _ _ (own_in OM_16.out) (by omega) (by omega)).mono ?_
  rintro e u17 ⟨rfl, hwu17⟩
  subst hwu17
  -- another call
  have HDB : Hid (Below u16.heap.size u16 u16.drew) := Lib.hid ((Below.refl _ _).drew)
  have HXA : Hid (RuAt u16.drew (w.heap.size) 49 ru2) := Lib.hid X2_16.out
  have HSR0 : Hid (S1.SortsIn u16.drew 0 A0 f0) := Lib.hid (HS0.out.below (A_16.out).drew (Nat.le_refl _))
  have HSR1 : Hid (S1.StrsIn u16.drew A1 s1) := Lib.hid (HS1.out.below (A_16.out).drew (Nat.le_refl _))
  obtain ⟨q0, q1, q2⟩ := (X2_16.out).cells
  have ql := (X2_16.out).lt
  go_wp2_with fail
  go_cut [19, 20] (fun s19 s20 wx => ∃ v T, s19 = v ∧ s20 = .bool V0 ∧ Below u16.heap.size u16 wx ∧ wx.ownsRow u16.heap.size T 1 v L.length (intsZ L))
  case first =>
    go_region_law (first
      | (go_simp; go_at_call 47; refine (S1.toSortOwn_any f0 A0 c0 _ HSR0.out hn0).mono ?_; rintro e uA0 ⟨rfl, hcA, hrA⟩; have HDA0 := Lib.hid (HDB.out.trans (hcA.mono HDB.out.size)); have HXB0 := Lib.hid (HXA.out.next hcA); have HRA0_1 := Lib.hid hrA; have HSQ1_1 := Lib.hid (HSR1.out.below hcA (Nat.le_refl _)); obtain ⟨z00, z01, z02⟩ := HXB0.out.cells; have z0l := HXB0.out.lt; clear q0 q1 q2 ql hcA hrA)
      | (go_simp; go_at_call 48; refine (S1.toStrOwn_any s1 A1 c1 _ HSQ1_1.out hn1).mono ?_; rintro e uA1 ⟨rfl, hcA, hrA⟩; have HDA1 := Lib.hid (HDA0.out.trans (hcA.mono HDA0.out.size)); have HXB1 := Lib.hid (HXB0.out.next hcA); have HRA1_2 := Lib.hid hrA; have HRA0_2 := Lib.hid (own_below HRA0_1.out hcA); obtain ⟨z10, z11, z12⟩ := HXB1.out.cells; have z1l := HXB1.out.lt; clear z00 z01 z02 z0l hcA hrA)
      | (go_simp; go_at_call 40; refine (toRule_any ru2 _).mono ?_; rintro e uB ⟨rfl, hcB⟩; have HDC := Lib.hid (HDA1.out.trans (hcB.mono HDA1.out.size)); have HRB0 := Lib.hid (own_below HRA0_2.out hcB); have HRB1 := Lib.hid (own_below HRA1_2.out hcB); clear z10 z11 z12 z1l hcB)
      | (go_simp; go_at_call 37; refine (HIM.out _ _ _ hn0 hn1 (S1.own_in_f HRB0.out) (S1.own_in_s HRB1.out)).mono ?_; rintro e u3 ⟨v3, T3, rfl, hb3, ho3⟩; have hbV := HDC.out.trans (hb3.mono HDC.out.size)))
    all_goals (go_wp2_with fail; go_meet; exact ⟨_, _, rfl, rfl, hbV, Joins.ownsRow_le ho3 HDC.out.size⟩)
  case rest =>
  clear q0 q1 q2 ql HDB HXA HSR0 HSR1
  obtain ⟨vH, TH, rfl, rfl, hb18, hoH⟩ := hcut
  obtain ⟨AH, cH, rfl⟩ := own_form hoH
  obtain ⟨u18, hwu18⟩ : ∃ u, u = wc := ⟨_, rfl⟩
  subst hwu18
  have hszH : u16.heap.size ≤ u18.heap.size := hb18.size
  have A_17 : Hid (Below w.heap.size w u18) := Lib.hid ((A_16.out).trans (Below.mono hb18 (A_16.out).size))
  have X2_17 : Hid (RuAt u18 (w.heap.size) 49 ru2) := Lib.hid ((X2_16.out).next hb18)
  have OS_17 : Hid (u18.ownsRow 0 TS 1 (.slice AS L.length cS) L.length (intsZ L)) := Lib.hid (own_below OS_16.out hb18)
  have OM_17 : Hid (u18.ownsRow 0 TG 1 (.slice AG L.length cG) L.length (intsZ (marks 1 L.length))) := Lib.hid (own_below OM_16.out hb18)
  clear A_16 X2_16 OS_16 OM_16
  clear hb18
  have OH_17 : Hid (u18.ownsRow 0 TH 1 (.slice AH L.length cH) L.length (intsZ L)) := Lib.hid (own_up hoH)
  clear hoH
  go_wp2_with fail
  refine (eqIntS_any L L _ _ _ _ _ (own_in OH_17.out) (own_in OS_17.out) hmx2 hmx2).mono ?_
  rintro e u19 ⟨rfl, hb19⟩
  rw [show decide (L = L) = true from decide_eq_true rfl]
  have A_18 : Hid (Below w.heap.size w u19) := Lib.hid ((A_17.out).trans (Below.mono hb19 (A_17.out).size))
  have X2_18 : Hid (RuAt u19 (w.heap.size) 49 ru2) := Lib.hid ((X2_17.out).next hb19)
  have OS_18 : Hid (u19.ownsRow 0 TS 1 (.slice AS L.length cS) L.length (intsZ L)) := Lib.hid (own_below OS_17.out hb19)
  have OM_18 : Hid (u19.ownsRow 0 TG 1 (.slice AG L.length cG) L.length (intsZ (marks 1 L.length))) := Lib.hid (own_below OM_17.out hb19)
  have OH_18 : Hid (u19.ownsRow 0 TH 1 (.slice AH L.length cH) L.length (intsZ L)) := Lib.hid (own_below OH_17.out hb19)
  clear A_17 X2_17 OS_17 OM_17 OH_17
  clear hb19
  go_wp2_with fail
  refine (heldIntS_any 1 L.length _ _ _ (own_in OM_18.out) (by omega) (by omega)).mono ?_
  rintro e u20 ⟨rfl, hwu20⟩
  subst hwu20
  go_wp2
  go_ret
  exact ⟨rfl, A_18.out⟩

set_option maxRecDepth 100000 in
theorem lifted (os : Os) (started : os.Started) (H : Type) (enc : TypeId × Value → H) :
    ReturnsInHanded {} Try.checked os 13 .any (Rows.fnExactSpacesForSpec.pre6 enc Try.prog Try.f13 Rows.fnExactSpacesForRow.domain false) (Rows.fnExactSpacesForSpec.post enc Try.prog Try.f13 false true false false) := by
  refine returnsInHanded_of_change (C := Try.checked) own started (by kernel_rfl) Try.func13
    (ChangeSpec.witness6 (enc := enc) (C := Try.checked) false ⟨#[], #[.slice none 0 0, .slice none 0 0, .agg #[.int .i64 0, .int .i64 0, .int .i64 0], .int .i64 0], []⟩ 8 (by kernel_rfl) (by kernel_rfl) (by kernel_rfl) (by kernel_rfl)) ?_
  intro W base args ds gs before hval0 hW hcnd _
  have hval : ∀ (j : Nat) t v, Try.f13.params[j]? = some t → args[j]? = some v → Value.okWide Try.prog W .any base t v := hval0
  have hW' := hW
  obtain ⟨p, q, hA0, hV, rfl, hfz, hnd⟩ := hW
  have hA : DataW.TrodAll enc Try.prog W 0 (fun _ => true) true Try.f13.params.toList args.toList ds p := hA0
  rw [Try.params13] at hA hval
  obtain ⟨v0, vs0, d0, ds0, p0, q0, hargs, rfl, rfl, h0, r0⟩ := trodAll_cons hA
  obtain ⟨v1, vs1, d1, ds1, p1, q1, rfl, rfl, rfl, h1, r1⟩ := trodAll_cons r0
  obtain ⟨v2, vs2, d2, ds2, p2, q2, rfl, rfl, rfl, h2, r2⟩ := trodAll_cons r1
  obtain ⟨v3, vs3, d3, ds3, p3, q3, rfl, rfl, rfl, h3, r3⟩ := trodAll_cons r2
  obtain ⟨rfl, rfl, rfl⟩ := trodAll_nil r3
  obtain rfl : args = #[v0, v1, v2, v3] := by cases args; simp_all
  obtain ⟨rfl, rfl⟩ := trodVars_none hV
  have k0 := h0
  have lt0 : ∀ x ∈ p0, x.block < W.heap.size := by obtain ⟨m, hm⟩ := k0; exact DataW.trod_lt m _ _ _ hm
  have k1 := h1
  have lt1 : ∀ x ∈ p1, x.block < W.heap.size := by obtain ⟨m, hm⟩ := k1; exact DataW.trod_lt m _ _ _ hm
  have k2 := h2
  have lt2 : ∀ x ∈ p2, x.block < W.heap.size := by obtain ⟨m, hm⟩ := k2; exact DataW.trod_lt m _ _ _ hm
  have k3 := h3
  have lt3 : ∀ x ∈ p3, x.block < W.heap.size := by obtain ⟨m, hm⟩ := k3; exact DataW.trod_lt m _ _ _ hm
  obtain ⟨A0, f0, c0, rfl, hs0, ho0, hl0⟩ := S1.open_sorts (hval 0 57 v0 rfl rfl) h0
  obtain ⟨A1, f1, c1, rfl, hs1, ho1, hl1⟩ := S1.open_strs (hval 1 44 v1 rfl rfl) h1
  obtain ⟨m2, rfl, wm2⟩ := open_ru (hval 2 49 v2 rfl rfl) h2
  obtain ⟨a3, rfl, rfl, rfl, wa3⟩ := open_int Try.underlying3 (hval 3 3 v3 rfl rfl) h3
  clear hA0 hval0
  refine (walk A0 f0 c0 A1 f1 c1 m2 a3 W hs0 ho0 hl0 hs1 ho1 hl1 (wf_range wa3)).mono fun e W' ⟨he, bel⟩ => ?_
  subst he
  exact ⟨_, rfl, _, _, _, [], _, [], hW', trodAll_mk1 (shut_bool Try.underlying4 _), (trodAll_cons_mk (Below.trod laidOut (by kernel_rfl) (of_decide_eq_true (by kernel_rfl)) k0 bel lt0) (trodAll_cons_mk (Below.trod laidOut (by kernel_rfl) (of_decide_eq_true (by kernel_rfl)) k1 bel lt1) (trodAll_cons_mk (Below.trod laidOut (by kernel_rfl) (of_decide_eq_true (by kernel_rfl)) k2 bel lt2) (trodAll_cons_mk (Below.trod laidOut (by kernel_rfl) (of_decide_eq_true (by kernel_rfl)) k3 bel lt3) trodAll_mk0)))), rfl, bel.frame _, fun h => by cases h⟩

theorem over : Rows.fnExactSpacesForRow.holds Try.pinned (OpenSpec.ofChange Rows.fnExactSpacesForSpec) :=
  OpenClaim.holds_of_wide 13 Try.f13 rfl rfl rfl rfl rfl rfl rfl ⟨rfl, rfl, rfl, rfl, rfl⟩ rfl rfl rfl rfl rfl (by kernel_rfl) Try.func13 (by kernel_rfl)
    (of_decide_eq_true (by kernel_rfl)) (by unfold Func.isWrapper; first | (rw [if_pos (by decide +kernel)]; kernel_rfl) | (rw [if_neg (by decide +kernel)]; exact ⟨rfl, rfl⟩))
    (fun os started H enc _ => lifted os started H enc)

theorem proved : Rows.FnExactSpacesForSaid := over
end Go.Proofs.Ytpbkeagpipipmaa.fnExactSpacesFor
