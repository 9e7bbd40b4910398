/-
  FnExactOffStandard: for every input (a slice of strikes, a strike and an int) the law returns true, and what it was given reads as before. Conditions: none beyond the given statement's own.
-/
import Derived.Test.YtbbaphhkdhdelaaRows
import Derived.Test.YtbbaphhkdhdelaaOff
import Derived.Test.YtbbaphhkdhdelaaMrk
import Derived.Test.YtbbaphhkdhdelaaIntsE
import Derived.Test.YtbbaphhkdhdelaaOpenSk
import Derived.Deep.RegionLaw
import Derived.Deep.DeepCutAuto
namespace Go.Proofs.Ytbbaphhkdhdelaa.fnExactOffStandard
open Go.ChangeShapes Go.WideShapes Go.ChangeAt Go.RowKit Go.Joins
open Go.ChangeMaps (open_string shut_string)
set_option linter.unusedVariables false

theorem own : ownKnob Try.prog.godebug = none := by kernel_rfl
theorem laidOut : laidOutB Try.prog = true := by kernel_rfl

set_option maxRecDepth 100000 in
set_option maxHeartbeats 4000000 in
theorem walk (A : Option Addr) (f : List Sk) (cap : Nat) (a1 : Sk) (a2 : Int) (w : World) (hs : SksIn w A f) (hl : f.length ≤ maxLen) (r2 : -9223372036854775808 ≤ a2 ∧ a2 ≤ 9223372036854775807) :
    Calls Try.prog 8 #[.slice A f.length cap, .agg #[.int .i64 a1.dep, .int .i64 a1.lef, .int .i64 a1.fac, .int .i64 a1.rig, .int .i64 a1.foo], .int .i64 a2] w fun e w' => e = .returned (.bool true) ∧ Below w.heap.size w w' := by
  have HS := Lib.hid hs; clear hs
  have HR2 := Lib.hid r2; clear r2
  obtain ⟨w0, hw0⟩ : ∃ w0 : World, w0 = w.alloc (.cells #[.int .i64 a1.dep, .int .i64 a1.lef, .int .i64 a1.fac, .int .i64 a1.rig, .int .i64 a1.foo] 23) := ⟨_, rfl⟩
  have A_0 : Hid (Below w.heap.size w w0) := Lib.hid (show Below _ _ _ by rw [hw0]; exact (Below.refl _ _).alloc (Nat.le_refl _) _)
  have X_0 : Hid (SkAt w0 w.heap.size 23 a1) := Lib.hid (show SkAt _ _ _ _ by rw [hw0]; exact SkAt.new _ _ _)
  have HW0 := Lib.hid hw0; clear hw0
  go_enter Try.func8, Try.ntmps8
  go_wp2_with fail
  rw [← HW0.out]
  refine (szStrikeS_any f A cap 1048576 _ hl (by omega) (by omega)).mono ?_
  rintro e w' ⟨rfl, hww⟩
  subst hww
  by_cases hlong : (1048576 : Int) < (f.length : Int)
  · rw [if_pos hlong]
    go_wp2
    go_ret
    exact ⟨rfl, A_0.out⟩
  rw [if_neg hlong]
  have hn : f.length ≤ 1048576 := by omega
  have hnn : ¬ (1048576 : Int) - (f.length : Int) < 0 := by omega
  clear hlong
  have HSD : Hid (SksIn w0.drew A f) := Lib.hid (HS.out.below (A_0.out).drew (Nat.le_refl _))
  have HXD := X_0
  obtain ⟨q0, q1, q2, q3, q4⟩ := (X_0.out).cells
  have ql := (X_0.out).lt
  go_wp2_with fail
  go_cut [8, 9] (fun s8 s9 wx => ∃ v T, s8 = v ∧ s9 = .bool (offB f a1 a2) ∧ Below w0.heap.size w0 wx ∧ wx.ownsRow w0.heap.size T 1 v (offL f a1 a2).length (intsZ (offL f a1 a2)))
  case first =>
    have tok1 : True := trivial
    go_region_law (first
      | (go_simp; go_at_call 28; have _t := tok1; refine (toStrikeS_any f A cap _ HSD.out hn).mono ?_; rintro e u1 ⟨rfl, hc1, hf1⟩; clear tok1 q0 q1 q2 q3 q4 ql; have hbT : Below w0.heap.size w0 u1 := ((Below.refl w0.heap.size w0).drew).trans (hc1.mono (Nat.le_refl _)); have HFTA := Lib.hid hf1; obtain ⟨q0, q1, q2, q3, q4⟩ := (HXD.out.next hbT).cells; have ql := (HXD.out.next hbT).lt; clear hf1)
      | (go_simp; go_at_call 15; have HFT2 := HFTA; refine (toStrike_any a1 _).mono ?_; rintro e u2 ⟨rfl, hc2⟩; have hbU : Below w0.heap.size w0 u2 := hbT.trans (hc2.mono hbT.size); have HFU := Lib.hid (HFT2.out.below hc2 HFT2.out.lt).sks; clear HFT2)
      | (go_simp; go_at_call 15; refine (toStrike_any a1 _).mono ?_; rintro e u1 ⟨rfl, hc1⟩; clear tok1; have hbT : Below w0.heap.size w0 u1 := ((Below.refl w0.heap.size w0).drew).trans (hc1.mono (Nat.le_refl _)); have HYA : Hid (SksIn u1 A f) := Lib.hid (HSD.out.below hc1 (Nat.le_refl _)))
      | (go_simp; go_at_call 28; have HY2 := HYA; refine (toStrikeS_any f A cap _ HY2.out hn).mono ?_; rintro e u2 ⟨rfl, hc2, hf2⟩; have hbU : Below w0.heap.size w0 u2 := hbT.trans (hc2.mono hbT.size); have HFU := Lib.hid hf2.sks; clear hf2 HY2)
      | (go_simp; go_at_call 32; refine (specOff_any f _ _ a1 a2 _ HFU.out hn).mono ?_; rintro e u3 ⟨v3, T3, rfl, hb3, ho3⟩; have hbV : Below w0.heap.size w0 u3 := hbU.trans (hb3.mono hbU.size)))
    all_goals (go_wp2_with fail; go_meet; exact ⟨_, _, rfl, rfl, hbV, Joins.ownsRow_le ho3 hbU.size⟩)
  case rest =>
  clear q0 q1 q2 q3 q4 ql HSD HXD
  obtain ⟨vS, TS, rfl, rfl, hbS, hoS⟩ := hcut
  obtain ⟨AS, cS, rfl⟩ := own_form hoS
  obtain ⟨u0, hu0⟩ : ∃ u, u = wc := ⟨_, rfl⟩
  subst hu0
  have A_1 : Hid (Below w.heap.size w u0) := Lib.hid ((A_0.out).trans (Below.mono hbS (A_0.out).size))
  have X_1 : Hid (SkAt u0 w.heap.size 23 a1) := Lib.hid ((X_0.out).next hbS)
  clear A_0 X_0
  clear hbS
  have OS_1 : Hid (u0.ownsRow 0 TS 1 (.slice AS (offL f a1 a2).length cS) (offL f a1 a2).length (intsZ (offL f a1 a2))) := Lib.hid (own_up hoS)
  clear hoS
  go_wp2_with fail
  have HX0 := Lib.hid (X_1.out).lt
  have ltS := Lib.hid (own_bound OS_1.out)
  refine (toStrikeS_any f A cap _ (HS.out.below A_1.out (Nat.le_refl _)) hn).mono ?_
  rintro e u1 ⟨rfl, hb1, hoZ⟩
  have A_2 : Hid (Below w.heap.size w u1) := Lib.hid ((A_1.out).trans (Below.mono hb1 (A_1.out).size))
  have X_2 : Hid (SkAt u1 w.heap.size 23 a1) := Lib.hid ((X_1.out).next hb1)
  have OS_2 : Hid (u1.ownsRow 0 TS 1 (.slice AS (offL f a1 a2).length cS) (offL f a1 a2).length (intsZ (offL f a1 a2))) := Lib.hid (own_below OS_1.out hb1)
  clear A_1 X_1 OS_1
  clear hb1
  have Z_2 : Hid (Own u1 u0.heap.size 25 (flatSk f)) := Lib.hid hoZ
  clear hoZ
  obtain ⟨q0, q1, q2, q3, q4⟩ := (X_2.out).cells
  have ql := (X_2.out).lt
  go_wp2_with fail
  refine (toStrike_any a1 _).mono ?_
  rintro e u2 ⟨rfl, hb2⟩
  have A_3 : Hid (Below w.heap.size w u2) := Lib.hid ((A_2.out).trans (Below.mono hb2 (A_2.out).size))
  have X_3 : Hid (SkAt u2 w.heap.size 23 a1) := Lib.hid ((X_2.out).next hb2)
  have OS_3 : Hid (u2.ownsRow 0 TS 1 (.slice AS (offL f a1 a2).length cS) (offL f a1 a2).length (intsZ (offL f a1 a2))) := Lib.hid (own_below OS_2.out hb2)
  have Z_3 : Hid (Own u2 u0.heap.size 25 (flatSk f)) := Lib.hid ((Z_2.out.below hb2 Z_2.out.lt))
  clear A_2 X_2 OS_2 Z_2
  clear hb2
  clear q0 q1 q2 q3 q4 ql
  go_wp2_with fail
  have HZL := Lib.hid (Z_3.out).lt
  refine (implOff_any f _ _ a1 a2 _ Z_3.out.sks hn).mono ?_
  rintro e u3 ⟨vG, TG, rfl, hb3, hoG⟩
  obtain ⟨AG, cG, rfl⟩ := own_form hoG
  have A_4 : Hid (Below w.heap.size w u3) := Lib.hid ((A_3.out).trans (Below.mono hb3 (A_3.out).size))
  have X_4 : Hid (SkAt u3 w.heap.size 23 a1) := Lib.hid ((X_3.out).next hb3)
  have OS_4 : Hid (u3.ownsRow 0 TS 1 (.slice AS (offL f a1 a2).length cS) (offL f a1 a2).length (intsZ (offL f a1 a2))) := Lib.hid (own_below OS_3.out hb3)
  have Z_4 : Hid (Own u3 u0.heap.size 25 (flatSk f)) := Lib.hid ((Z_3.out.below hb3 Z_3.out.lt))
  clear A_3 X_3 OS_3 Z_3
  clear hb3
  have OG_4 : Hid (u3.ownsRow 0 TG 1 (.slice AG (offL f a1 a2).length cG) (offL f a1 a2).length (intsZ (offL f a1 a2))) := Lib.hid (own_up hoG)
  have fromG : Hid (∀ k, (Value.slice AG (offL f a1 a2).length cG).ownBlock = some k → u2.heap.size ≤ k) := Lib.hid (own_lt hoG)
  clear hoG
  have hmx := off_len f a1 a2
  have hto : Hid (∀ (A : Option Addr) (c : Nat) (W : World), SksIn W A f → Calls Try.prog 33 #[.slice A f.length c, .agg #[.int .i64 a1.dep, .int .i64 a1.lef, .int .i64 a1.fac, .int .i64 a1.rig, .int .i64 a1.foo], .int .i64 a2] W fun e W' => ∃ v T, e = .returned (.tuple #[v, .bool (offB f a1 a2)]) ∧ Below W.heap.size W W' ∧ W'.ownsRow W.heap.size T 1 v (offL f a1 a2).length (intsZ (offL f a1 a2))) := Lib.hid (fun A c W h => implOff_any f A c a1 a2 W h hn)
  generalize offB f a1 a2 = b at *
  generalize offL f a1 a2 = L at *
  have hbb : (b != b) = false := by simp
  have hmx2 : L.length ≤ maxLen := by unfold maxLen; omega
  go_wp2_with fail
  refine (eqIntS_any L L _ _ _ _ _ (own_in OG_4.out) (own_in OS_4.out) hmx2 hmx2).mono ?_
  rintro e u4 ⟨rfl, hb4⟩
  have A_5 : Hid (Below w.heap.size w u4) := Lib.hid ((A_4.out).trans (Below.mono hb4 (A_4.out).size))
  have X_5 : Hid (SkAt u4 w.heap.size 23 a1) := Lib.hid ((X_4.out).next hb4)
  have OS_5 : Hid (u4.ownsRow 0 TS 1 (.slice AS (L).length cS) (L).length (intsZ (L))) := Lib.hid (own_below OS_4.out hb4)
  have Z_5 : Hid (Own u4 u0.heap.size 25 (flatSk f)) := Lib.hid ((Z_4.out.below hb4 Z_4.out.lt))
  have OG_5 : Hid (u4.ownsRow 0 TG 1 (.slice AG (L).length cG) (L).length (intsZ (L))) := Lib.hid (own_below OG_4.out hb4)
  clear A_4 X_4 OS_4 Z_4 OG_4
  clear hb4
  rw [show decide (L = L) = true from decide_eq_true rfl]
  go_wp2_with fail
  refine (toStrikeS_any f A cap _ (HS.out.below A_5.out (Nat.le_refl _)) hn).mono ?_
  rintro e u5 ⟨rfl, hb5, hoY⟩
  have A_6 : Hid (Below w.heap.size w u5) := Lib.hid ((A_5.out).trans (Below.mono hb5 (A_5.out).size))
  have X_6 : Hid (SkAt u5 w.heap.size 23 a1) := Lib.hid ((X_5.out).next hb5)
  have OS_6 : Hid (u5.ownsRow 0 TS 1 (.slice AS (L).length cS) (L).length (intsZ (L))) := Lib.hid (own_below OS_5.out hb5)
  have Z_6 : Hid (Own u5 u0.heap.size 25 (flatSk f)) := Lib.hid ((Z_5.out.below hb5 Z_5.out.lt))
  have OG_6 : Hid (u5.ownsRow 0 TG 1 (.slice AG (L).length cG) (L).length (intsZ (L))) := Lib.hid (own_below OG_5.out hb5)
  clear A_5 X_5 OS_5 Z_5 OG_5
  clear hb5
  have Y_6 : Hid (Own u5 u4.heap.size 25 (flatSk f)) := Lib.hid hoY
  clear hoY
  go_wp2_with fail
  refine (eqStrikeS_any f f _ _ _ _ _ Z_6.out.sks Y_6.out.sks hl hl).mono ?_
  rintro e u6 ⟨rfl, hb6⟩
  have A_7 : Hid (Below w.heap.size w u6) := Lib.hid ((A_6.out).trans (Below.mono hb6 (A_6.out).size))
  have X_7 : Hid (SkAt u6 w.heap.size 23 a1) := Lib.hid ((X_6.out).next hb6)
  have OS_7 : Hid (u6.ownsRow 0 TS 1 (.slice AS (L).length cS) (L).length (intsZ (L))) := Lib.hid (own_below OS_6.out hb6)
  have Z_7 : Hid (Own u6 u0.heap.size 25 (flatSk f)) := Lib.hid ((Z_6.out.below hb6 Z_6.out.lt))
  have OG_7 : Hid (u6.ownsRow 0 TG 1 (.slice AG (L).length cG) (L).length (intsZ (L))) := Lib.hid (own_below OG_6.out hb6)
  have Y_7 : Hid (Own u6 u4.heap.size 25 (flatSk f)) := Lib.hid ((Y_6.out.below hb6 Y_6.out.lt))
  clear A_6 X_6 OS_6 Z_6 OG_6 Y_6
  clear hb6
  rw [show decide (f = f) = true from decide_eq_true rfl]
  clear Y_7
  go_wp2_with fail
  have hrow : HasRow u6 u0.heap.size 25 (f.length * 5) := by have h := HasRow.of_own Z_7.out; rw [flatSk_len, Nat.mul_comm] at h; exact h
  refine (markStrikeS_any 1 f.length _ _ _ hrow (by omega) (by omega)).mono ?_
  rintro e u7 ⟨rfl, hg⟩
  clear hrow
  clear Z_7
  have A_8 : Hid (Below w.heap.size w u7) := Lib.hid ((A_7.out).grown hg (A_7.out).size (fun k hk => by have e1 : u0.heap.size = k := Option.some.inj hk; have e2 := HX0.out; omega))
  have X_8 : Hid (SkAt u7 w.heap.size 23 a1) := Lib.hid ((hg.block _ (X_7.out).lt (fun h => by have e1 := Option.some.inj h; have e2 := HX0.out; omega)).trans X_7.out)
  have OS_8 : Hid (u7.ownsRow 0 TS 1 (.slice AS (L).length cS) (L).length (intsZ (L))) := Lib.hid (own_grown OS_7.out hg (fun k h1 h2 => by have e1 := ltS.out k h1; have e2 : u0.heap.size = k := Option.some.inj h2; omega))
  have OG_8 : Hid (u7.ownsRow 0 TG 1 (.slice AG (L).length cG) (L).length (intsZ (L))) := Lib.hid (own_grown OG_7.out hg (fun k h1 h2 => by have e1 := fromG.out k h1; have e2 : u0.heap.size = k := Option.some.inj h2; have e3 := HZL.out; omega))
  clear A_7 X_7 OS_7 OG_7 hg
  go_wp2_with fail
  refine (eqIntS_any L L _ _ _ _ _ (own_in OG_8.out) (own_in OS_8.out) hmx2 hmx2).mono ?_
  rintro e u8 ⟨rfl, hb8⟩
  have A_9 : Hid (Below w.heap.size w u8) := Lib.hid ((A_8.out).trans (Below.mono hb8 (A_8.out).size))
  have X_9 : Hid (SkAt u8 w.heap.size 23 a1) := Lib.hid ((X_8.out).next hb8)
  have OS_9 : Hid (u8.ownsRow 0 TS 1 (.slice AS (L).length cS) (L).length (intsZ (L))) := Lib.hid (own_below OS_8.out hb8)
  have OG_9 : Hid (u8.ownsRow 0 TG 1 (.slice AG (L).length cG) (L).length (intsZ (L))) := Lib.hid (own_below OG_8.out hb8)
  clear A_8 X_8 OS_8 OG_8
  clear hb8
  rw [show decide (L = L) = true from decide_eq_true rfl]
  go_wp2_with fail
  refine (markIntSE_any 1 L.length 0 _ _ _ _ OG_9.out (by omega) (by omega)).mono ?_
  rintro e u9 ⟨rfl, hg, om⟩
  clear OG_9
  have A_10 : Hid (Below w.heap.size w u9) := Lib.hid ((A_9.out).grown hg (A_9.out).size (fun k hk => by have e1 := fromG.out k hk; have e2 := HX0.out; have e3 := HZL.out; omega))
  have X_10 : Hid (SkAt u9 w.heap.size 23 a1) := Lib.hid ((hg.block _ (X_9.out).lt (fun h => by have e1 := fromG.out _ h.symm; have e2 := HX0.out; have e3 := HZL.out; omega)).trans X_9.out)
  have OS_10 : Hid (u9.ownsRow 0 TS 1 (.slice AS (L).length cS) (L).length (intsZ (L))) := Lib.hid (own_grown OS_9.out hg (fun k h1 h2 => by have e1 := ltS.out k h1; have e2 := fromG.out k h2; have e3 := HZL.out; omega))
  clear A_9 X_9 OS_9 hg
  have OM_10 : Hid (u9.ownsRow 0 TG 1 (.slice AG L.length cG) L.length (intsZ (marks 1 L.length))) := Lib.hid om
  have hqm : (1 + (L.length : Int) != 1 + (L.length : Int)) = false := by simp
  clear om
  go_wp2_with fail
  refine (heldIntS_any 1 L.length _ _ _ (own_in OM_10.out) (by omega) (by omega)).mono ?_
  rintro e u10 ⟨rfl, hwu10⟩
  subst hwu10
  have HSD : Hid (SksIn u9.drew A f) := Lib.hid (HS.out.below (A_10.out).drew (Nat.le_refl _))
  have HXD := X_10
  obtain ⟨q0, q1, q2, q3, q4⟩ := (X_10.out).cells
  have ql := (X_10.out).lt
  go_wp2_with fail
  go_cut [16, 17] (fun s16 s17 wx => ∃ v T, s16 = v ∧ s17 = .bool (b) ∧ Below u9.heap.size u9 wx ∧ wx.ownsRow u9.heap.size T 1 v (L).length (intsZ (L)))
  case first =>
    have tok1 : True := trivial
    go_region_law (first
      | (go_simp; go_at_call 28; have _t := tok1; refine (toStrikeS_any f A cap _ HSD.out hn).mono ?_; rintro e u1 ⟨rfl, hc1, hf1⟩; clear tok1 q0 q1 q2 q3 q4 ql; have hbT : Below u9.heap.size u9 u1 := ((Below.refl u9.heap.size u9).drew).trans (hc1.mono (Nat.le_refl _)); have HFTA := Lib.hid hf1; obtain ⟨q0, q1, q2, q3, q4⟩ := (HXD.out.next hbT).cells; have ql := (HXD.out.next hbT).lt; clear hf1)
      | (go_simp; go_at_call 15; have HFT2 := HFTA; refine (toStrike_any a1 _).mono ?_; rintro e u2 ⟨rfl, hc2⟩; have hbU : Below u9.heap.size u9 u2 := hbT.trans (hc2.mono hbT.size); have HFU := Lib.hid (HFT2.out.below hc2 HFT2.out.lt).sks; clear HFT2)
      | (go_simp; go_at_call 15; refine (toStrike_any a1 _).mono ?_; rintro e u1 ⟨rfl, hc1⟩; clear tok1; have hbT : Below u9.heap.size u9 u1 := ((Below.refl u9.heap.size u9).drew).trans (hc1.mono (Nat.le_refl _)); have HYA : Hid (SksIn u1 A f) := Lib.hid (HSD.out.below hc1 (Nat.le_refl _)))
      | (go_simp; go_at_call 28; have HY2 := HYA; refine (toStrikeS_any f A cap _ HY2.out hn).mono ?_; rintro e u2 ⟨rfl, hc2, hf2⟩; have hbU : Below u9.heap.size u9 u2 := hbT.trans (hc2.mono hbT.size); have HFU := Lib.hid hf2.sks; clear hf2 HY2)
      | (go_simp; go_at_call 33; refine (hto.out _ _ _ HFU.out).mono ?_; rintro e u3 ⟨v3, T3, rfl, hb3, ho3⟩; have hbV : Below u9.heap.size u9 u3 := hbU.trans (hb3.mono hbU.size)))
    all_goals (go_wp2_with fail; go_meet; exact ⟨_, _, rfl, rfl, hbV, Joins.ownsRow_le ho3 hbU.size⟩)
  case rest =>
  clear q0 q1 q2 q3 q4 ql HSD HXD
  obtain ⟨vH, TH, rfl, rfl, hbH, hoH⟩ := hcut
  obtain ⟨AH, cH, rfl⟩ := own_form hoH
  obtain ⟨x0, hx0⟩ : ∃ u, u = wc := ⟨_, rfl⟩
  subst hx0
  have A_11 : Hid (Below w.heap.size w x0) := Lib.hid ((A_10.out).trans (Below.mono hbH (A_10.out).size))
  have X_11 : Hid (SkAt x0 w.heap.size 23 a1) := Lib.hid ((X_10.out).next hbH)
  have OS_11 : Hid (x0.ownsRow 0 TS 1 (.slice AS (L).length cS) (L).length (intsZ (L))) := Lib.hid (own_below OS_10.out hbH)
  have OM_11 : Hid (x0.ownsRow 0 TG 1 (.slice AG L.length cG) L.length (intsZ (marks 1 L.length))) := Lib.hid (own_below OM_10.out hbH)
  clear A_10 X_10 OS_10 OM_10
  clear hbH
  have OH_11 : Hid (x0.ownsRow 0 TH 1 (.slice AH (L).length cH) (L).length (intsZ (L))) := Lib.hid (own_up hoH)
  clear hoH
  go_wp2_with fail
  refine (eqIntS_any L L _ _ _ _ _ (own_in OH_11.out) (own_in OS_11.out) hmx2 hmx2).mono ?_
  rintro e u11 ⟨rfl, hb11⟩
  have A_12 : Hid (Below w.heap.size w u11) := Lib.hid ((A_11.out).trans (Below.mono hb11 (A_11.out).size))
  have X_12 : Hid (SkAt u11 w.heap.size 23 a1) := Lib.hid ((X_11.out).next hb11)
  have OS_12 : Hid (u11.ownsRow 0 TS 1 (.slice AS (L).length cS) (L).length (intsZ (L))) := Lib.hid (own_below OS_11.out hb11)
  have OM_12 : Hid (u11.ownsRow 0 TG 1 (.slice AG L.length cG) L.length (intsZ (marks 1 L.length))) := Lib.hid (own_below OM_11.out hb11)
  have OH_12 : Hid (u11.ownsRow 0 TH 1 (.slice AH (L).length cH) (L).length (intsZ (L))) := Lib.hid (own_below OH_11.out hb11)
  clear A_11 X_11 OS_11 OM_11 OH_11
  clear hb11
  rw [show decide (L = L) = true from decide_eq_true rfl]
  go_wp2_with fail
  refine (heldIntS_any 1 L.length _ _ _ (own_in OM_12.out) (by omega) (by omega)).mono ?_
  rintro e u12 ⟨rfl, hwu12⟩
  subst hwu12
  go_wp2
  go_ret
  exact ⟨rfl, A_12.out⟩

set_option maxRecDepth 100000 in
theorem lifted (os : Os) (started : os.Started) (H : Type) (enc : TypeId × Value → H) :
    ReturnsInHanded {} Try.checked os 8 .any (Rows.fnExactOffStandardSpec.pre6 enc Try.prog Try.f8 Rows.fnExactOffStandardRow.domain false) (Rows.fnExactOffStandardSpec.post enc Try.prog Try.f8 false true false false) := by
  refine returnsInHanded_of_change (C := Try.checked) own started (by kernel_rfl) Try.func8
    (ChangeSpec.witness6 (enc := enc) (C := Try.checked) false ⟨#[], #[.slice none 0 0, .agg #[.int .i64 0, .int .i64 0, .int .i64 0, .int .i64 0, .int .i64 0], .int .i64 0], []⟩ 8 (by kernel_rfl) (by kernel_rfl) (by kernel_rfl) (by kernel_rfl)) ?_
  intro W base args ds gs before hval0 hW hcnd _
  have hval : ∀ (j : Nat) t v, Try.f8.params[j]? = some t → args[j]? = some v → Value.okWide Try.prog W .any base t v := hval0
  have hW' := hW
  obtain ⟨p, q, hA0, hV, rfl, hfz, hnd⟩ := hW
  have hA : DataW.TrodAll enc Try.prog W 0 (fun _ => true) true Try.f8.params.toList args.toList ds p := hA0
  rw [Try.params8] at hA hval
  obtain ⟨v0, vs0, d0, ds0, p0, q0, hargs, rfl, rfl, h0, r0⟩ := trodAll_cons hA
  obtain ⟨v1, vs1, d1, ds1, p1, q1, rfl, rfl, rfl, h1, r1⟩ := trodAll_cons r0
  obtain ⟨v2, vs2, d2, ds2, p2, q2, rfl, rfl, rfl, h2, r2⟩ := trodAll_cons r1
  obtain ⟨rfl, rfl, rfl⟩ := trodAll_nil r2
  obtain rfl : args = #[v0, v1, v2] := by cases args; simp_all
  obtain ⟨rfl, rfl⟩ := trodVars_none hV
  have k0 := h0
  have lt0 : ∀ x ∈ p0, x.block < W.heap.size := by obtain ⟨m, hm⟩ := k0; exact DataW.trod_lt m _ _ _ hm
  have k1 := h1
  have lt1 : ∀ x ∈ p1, x.block < W.heap.size := by obtain ⟨m, hm⟩ := k1; exact DataW.trod_lt m _ _ _ hm
  have k2 := h2
  have lt2 : ∀ x ∈ p2, x.block < W.heap.size := by obtain ⟨m, hm⟩ := k2; exact DataW.trod_lt m _ _ _ hm
  obtain ⟨A0, f0, cap0, rfl, hs0, hl0⟩ := open_sks (hval 0 38 v0 rfl rfl) h0
  obtain ⟨a1, rfl, wa1⟩ := open_sk (hval 1 23 v1 rfl rfl) h1
  obtain ⟨a2, rfl, rfl, rfl, wa2⟩ := open_int Try.underlying3 (hval 2 3 v2 rfl rfl) h2
  clear hA0 hval0
  refine (walk A0 f0 cap0 a1 a2 W hs0 hl0 (wf_range wa2)).mono fun e W' ⟨he, bel⟩ => ?_
  subst he
  exact ⟨_, rfl, _, _, _, [], _, [], hW', trodAll_mk1 (shut_bool Try.underlying4 _), (trodAll_cons_mk (Below.trod laidOut (by kernel_rfl) (of_decide_eq_true (by kernel_rfl)) k0 bel lt0) (trodAll_cons_mk (Below.trod laidOut (by kernel_rfl) (of_decide_eq_true (by kernel_rfl)) k1 bel lt1) (trodAll_cons_mk (Below.trod laidOut (by kernel_rfl) (of_decide_eq_true (by kernel_rfl)) k2 bel lt2) trodAll_mk0))), rfl, bel.frame _, fun h => by cases h⟩

theorem over : Rows.fnExactOffStandardRow.holds Try.pinned (OpenSpec.ofChange Rows.fnExactOffStandardSpec) :=
  OpenClaim.holds_of_wide 8 Try.f8 rfl rfl rfl rfl rfl rfl rfl ⟨rfl, rfl, rfl, rfl, rfl⟩ rfl rfl rfl rfl rfl (by kernel_rfl) Try.func8 (by kernel_rfl)
    (of_decide_eq_true (by kernel_rfl)) (by unfold Func.isWrapper; first | (rw [if_pos (by decide +kernel)]; kernel_rfl) | (rw [if_neg (by decide +kernel)]; exact ⟨rfl, rfl⟩))
    (fun os started H enc _ => lifted os started H enc)

theorem proved : Rows.FnExactOffStandardSaid := over
end Go.Proofs.Ytbbaphhkdhdelaa.fnExactOffStandard
