/-
  FnExactLeastFiled: for every input (a slice of strikes and a strike) the law returns true, and what it was given reads as before. Conditions: none beyond the given statement's own.
-/
import Derived.Test.YtbbaphhkdhdelaaRows
import Derived.Test.YtbbaphhkdhdelaaLef
import Derived.Test.YtbbaphhkdhdelaaOpenSk
import Derived.Deep.RegionLaw
import Derived.Deep.DeepCutAuto
namespace Go.Proofs.Ytbbaphhkdhdelaa.fnExactLeastFiled
open Go.ChangeShapes Go.WideShapes Go.ChangeAt Go.RowKit Go.Joins
open Go.ChangeMaps (open_string shut_string)
set_option linter.unusedVariables false

theorem own : ownKnob Try.prog.godebug = none := by kernel_rfl
theorem laidOut : laidOutB Try.prog = true := by kernel_rfl

set_option maxRecDepth 100000 in
set_option maxHeartbeats 4000000 in
theorem walk (A : Option Addr) (f : List Sk) (cap : Nat) (a1 : Sk) (w : World) (hs : SksIn w A f) (hl : f.length ≤ maxLen) :
    Calls Try.prog 9 #[.slice A f.length cap, .agg #[.int .i64 a1.dep, .int .i64 a1.lef, .int .i64 a1.fac, .int .i64 a1.rig, .int .i64 a1.foo]] w fun e w' => e = .returned (.bool true) ∧ Below w.heap.size w w' := by
  have HS := Lib.hid hs; clear hs
  obtain ⟨w0, hw0⟩ : ∃ w0 : World, w0 = w.alloc (.cells #[.int .i64 a1.dep, .int .i64 a1.lef, .int .i64 a1.fac, .int .i64 a1.rig, .int .i64 a1.foo] 23) := ⟨_, rfl⟩
  have A_0 : Hid (Below w.heap.size w w0) := Lib.hid (show Below _ _ _ by rw [hw0]; exact (Below.refl _ _).alloc (Nat.le_refl _) _)
  have X_0 : Hid (SkAt w0 w.heap.size 23 a1) := Lib.hid (show SkAt _ _ _ _ by rw [hw0]; exact SkAt.new _ _ _)
  have HW0 := Lib.hid hw0; clear hw0
  obtain ⟨R1, hR1⟩ : ∃ R, R = fI (lfR f a1) := ⟨_, rfl⟩
  obtain ⟨R2, hR2⟩ : ∃ R, R = fV (lfR f a1) := ⟨_, rfl⟩
  obtain ⟨R3, hR3⟩ : ∃ R, R = (lfR f a1).isSome := ⟨_, rfl⟩
  have HSP : Hid (∀ (A : Option Addr) (c : Nat) (W : World), f.length ≤ 1048576 → SksIn W A f → Calls Try.prog 35 #[.slice A f.length c, .agg #[.int .i64 a1.dep, .int .i64 a1.lef, .int .i64 a1.fac, .int .i64 a1.rig, .int .i64 a1.foo]] W fun e W' => e = .returned (.tuple #[.int .i64 R1, .int .i64 R2, .bool R3]) ∧ Below W.heap.size W W') := by show ∀ A c W, _; rw [hR1, hR2, hR3]; exact fun A c W hn h => specLf_any f A c a1 W h hn
  have HIM : Hid (∀ (A : Option Addr) (c : Nat) (W : World), f.length ≤ 1048576 → SksIn W A f → Calls Try.prog 36 #[.slice A f.length c, .agg #[.int .i64 a1.dep, .int .i64 a1.lef, .int .i64 a1.fac, .int .i64 a1.rig, .int .i64 a1.foo]] W fun e W' => e = .returned (.tuple #[.int .i64 R1, .int .i64 R2, .bool R3]) ∧ Below W.heap.size W W') := by show ∀ A c W, _; rw [hR1, hR2, hR3]; exact fun A c W hn h => implLf_any f A c a1 W h hn
  clear hR1 hR2 hR3
  have hn1 : (R1 != R1) = false := by simp
  have hn2 : (R2 != R2) = false := by simp
  have hn3 : (R3 != R3) = false := by simp
  go_enter Try.func9, Try.ntmps9
  go_wp2_with fail
  rw [← HW0.out]
  refine (szStrikeS_any f A cap 1048576 _ hl (by omega) (by omega)).mono ?_
  rintro e w' ⟨rfl, hww⟩
  subst hww
  by_cases hlong : (1048576 : Int) < (f.length : Int)
  · rw [if_pos hlong]
    go_wp2
    go_ret
    exact ⟨rfl, A_0.out⟩
  rw [if_neg hlong]
  have hn : f.length ≤ 1048576 := by omega
  have hnn : ¬ (1048576 : Int) - (f.length : Int) < 0 := by omega
  clear hlong
  have HSD : Hid (SksIn w0.drew A f) := Lib.hid (HS.out.below (A_0.out).drew (Nat.le_refl _))
  have HXD := X_0
  obtain ⟨q0, q1, q2, q3, q4⟩ := (X_0.out).cells
  have ql := (X_0.out).lt
  go_wp2_with fail
  go_cut [6, 7, 8] (fun s6 s7 s8 wx => ∃ (z : Unit), s6 = .int .i64 R1 ∧ s7 = .int .i64 R2 ∧ s8 = .bool R3 ∧ Below w0.heap.size w0 wx)
  case first =>
    have tok1 : True := trivial
    go_region_law (first
      | (go_simp; go_at_call 28; have _t := tok1; refine (toStrikeS_any f A cap _ HSD.out hn).mono ?_; rintro e u1 ⟨rfl, hc1, hf1⟩; clear tok1 q0 q1 q2 q3 q4 ql; have hbT : Below w0.heap.size w0 u1 := ((Below.refl w0.heap.size w0).drew).trans (hc1.mono (Nat.le_refl _)); have HFTA := Lib.hid hf1; obtain ⟨q0, q1, q2, q3, q4⟩ := (HXD.out.next hbT).cells; have ql := (HXD.out.next hbT).lt; clear hf1)
      | (go_simp; go_at_call 15; have HFT2 := HFTA; refine (toStrike_any a1 _).mono ?_; rintro e u2 ⟨rfl, hc2⟩; have hbU : Below w0.heap.size w0 u2 := hbT.trans (hc2.mono hbT.size); have HFU := Lib.hid (HFT2.out.below hc2 HFT2.out.lt).sks; clear HFT2)
      | (go_simp; go_at_call 15; refine (toStrike_any a1 _).mono ?_; rintro e u1 ⟨rfl, hc1⟩; clear tok1; have hbT : Below w0.heap.size w0 u1 := ((Below.refl w0.heap.size w0).drew).trans (hc1.mono (Nat.le_refl _)); have HYA : Hid (SksIn u1 A f) := Lib.hid (HSD.out.below hc1 (Nat.le_refl _)))
      | (go_simp; go_at_call 28; have HY2 := HYA; refine (toStrikeS_any f A cap _ HY2.out hn).mono ?_; rintro e u2 ⟨rfl, hc2, hf2⟩; have hbU : Below w0.heap.size w0 u2 := hbT.trans (hc2.mono hbT.size); have HFU := Lib.hid hf2.sks; clear hf2 HY2)
      | (go_simp; go_at_call 35; refine (HSP.out _ _ _ hn HFU.out).mono ?_; rintro e u3 ⟨rfl, hb3⟩; have hbV : Below w0.heap.size w0 u3 := hbU.trans (hb3.mono hbU.size)))
    all_goals (go_wp2_with fail; go_meet; exact ⟨(), rfl, rfl, rfl, hbV⟩)
  case rest =>
  clear q0 q1 q2 q3 q4 ql HSD HXD
  obtain ⟨_, rfl, rfl, rfl, hbS⟩ := hcut
  obtain ⟨u0, hu0⟩ : ∃ u, u = wc := ⟨_, rfl⟩
  subst hu0
  have A_1 : Hid (Below w.heap.size w u0) := Lib.hid ((A_0.out).trans (Below.mono hbS (A_0.out).size))
  have X_1 : Hid (SkAt u0 w.heap.size 23 a1) := Lib.hid ((X_0.out).next hbS)
  clear A_0 X_0
  clear hbS
  go_wp2_with fail
  refine (toStrikeS_any f A cap _ (HS.out.below A_1.out (Nat.le_refl _)) hn).mono ?_
  rintro e u1 ⟨rfl, hb1, hoZ⟩
  have A_2 : Hid (Below w.heap.size w u1) := Lib.hid ((A_1.out).trans (Below.mono hb1 (A_1.out).size))
  have X_2 : Hid (SkAt u1 w.heap.size 23 a1) := Lib.hid ((X_1.out).next hb1)
  clear A_1 X_1
  clear hb1
  have Z_2 : Hid (Own u1 u0.heap.size 25 (flatSk f)) := Lib.hid hoZ
  clear hoZ
  obtain ⟨q0, q1, q2, q3, q4⟩ := (X_2.out).cells
  have ql := (X_2.out).lt
  go_wp2_with fail
  refine (toStrike_any a1 _).mono ?_
  rintro e u2 ⟨rfl, hb2⟩
  have A_3 : Hid (Below w.heap.size w u2) := Lib.hid ((A_2.out).trans (Below.mono hb2 (A_2.out).size))
  have X_3 : Hid (SkAt u2 w.heap.size 23 a1) := Lib.hid ((X_2.out).next hb2)
  have Z_3 : Hid (Own u2 u0.heap.size 25 (flatSk f)) := Lib.hid ((Z_2.out.below hb2 Z_2.out.lt))
  clear A_2 X_2 Z_2
  clear hb2
  clear q0 q1 q2 q3 q4 ql
  go_wp2_with fail
  refine (HIM.out _ _ _ hn Z_3.out.sks).mono ?_
  rintro e u3 ⟨rfl, hb3⟩
  have A_4 : Hid (Below w.heap.size w u3) := Lib.hid ((A_3.out).trans (Below.mono hb3 (A_3.out).size))
  have X_4 : Hid (SkAt u3 w.heap.size 23 a1) := Lib.hid ((X_3.out).next hb3)
  have Z_4 : Hid (Own u3 u0.heap.size 25 (flatSk f)) := Lib.hid ((Z_3.out.below hb3 Z_3.out.lt))
  clear A_3 X_3 Z_3
  clear hb3
  go_wp2_with fail
  refine (toStrikeS_any f A cap _ (HS.out.below A_4.out (Nat.le_refl _)) hn).mono ?_
  rintro e u4 ⟨rfl, hb4, hoY⟩
  have A_5 : Hid (Below w.heap.size w u4) := Lib.hid ((A_4.out).trans (Below.mono hb4 (A_4.out).size))
  have X_5 : Hid (SkAt u4 w.heap.size 23 a1) := Lib.hid ((X_4.out).next hb4)
  have Z_5 : Hid (Own u4 u0.heap.size 25 (flatSk f)) := Lib.hid ((Z_4.out.below hb4 Z_4.out.lt))
  clear A_4 X_4 Z_4
  clear hb4
  have Y_5 : Hid (Own u4 u3.heap.size 25 (flatSk f)) := Lib.hid hoY
  clear hoY
  go_wp2_with fail
  refine (eqStrikeS_any f f _ _ _ _ _ Z_5.out.sks Y_5.out.sks hl hl).mono ?_
  rintro e u5 ⟨rfl, hb5⟩
  have A_6 : Hid (Below w.heap.size w u5) := Lib.hid ((A_5.out).trans (Below.mono hb5 (A_5.out).size))
  have X_6 : Hid (SkAt u5 w.heap.size 23 a1) := Lib.hid ((X_5.out).next hb5)
  have Z_6 : Hid (Own u5 u0.heap.size 25 (flatSk f)) := Lib.hid ((Z_5.out.below hb5 Z_5.out.lt))
  have Y_6 : Hid (Own u5 u3.heap.size 25 (flatSk f)) := Lib.hid ((Y_5.out.below hb5 Y_5.out.lt))
  clear A_5 X_5 Z_5 Y_5
  clear hb5
  rw [show decide (f = f) = true from decide_eq_true rfl]
  go_wp2
  go_ret
  exact ⟨rfl, A_6.out⟩

set_option maxRecDepth 100000 in
theorem lifted (os : Os) (started : os.Started) (H : Type) (enc : TypeId × Value → H) :
    ReturnsInHanded {} Try.checked os 9 .any (Rows.fnExactLeastFiledSpec.pre6 enc Try.prog Try.f9 Rows.fnExactLeastFiledRow.domain false) (Rows.fnExactLeastFiledSpec.post enc Try.prog Try.f9 false true false false) := by
  refine returnsInHanded_of_change (C := Try.checked) own started (by kernel_rfl) Try.func9
    (ChangeSpec.witness6 (enc := enc) (C := Try.checked) false ⟨#[], #[.slice none 0 0, .agg #[.int .i64 0, .int .i64 0, .int .i64 0, .int .i64 0, .int .i64 0]], []⟩ 8 (by kernel_rfl) (by kernel_rfl) (by kernel_rfl) (by kernel_rfl)) ?_
  intro W base args ds gs before hval0 hW hcnd _
  have hval : ∀ (j : Nat) t v, Try.f9.params[j]? = some t → args[j]? = some v → Value.okWide Try.prog W .any base t v := hval0
  have hW' := hW
  obtain ⟨p, q, hA0, hV, rfl, hfz, hnd⟩ := hW
  have hA : DataW.TrodAll enc Try.prog W 0 (fun _ => true) true Try.f9.params.toList args.toList ds p := hA0
  rw [Try.params9] at hA hval
  obtain ⟨v0, vs0, d0, ds0, p0, q0, hargs, rfl, rfl, h0, r0⟩ := trodAll_cons hA
  obtain ⟨v1, vs1, d1, ds1, p1, q1, rfl, rfl, rfl, h1, r1⟩ := trodAll_cons r0
  obtain ⟨rfl, rfl, rfl⟩ := trodAll_nil r1
  obtain rfl : args = #[v0, v1] := by cases args; simp_all
  obtain ⟨rfl, rfl⟩ := trodVars_none hV
  have k0 := h0
  have lt0 : ∀ x ∈ p0, x.block < W.heap.size := by obtain ⟨m, hm⟩ := k0; exact DataW.trod_lt m _ _ _ hm
  have k1 := h1
  have lt1 : ∀ x ∈ p1, x.block < W.heap.size := by obtain ⟨m, hm⟩ := k1; exact DataW.trod_lt m _ _ _ hm
  obtain ⟨A0, f0, cap0, rfl, hs0, hl0⟩ := open_sks (hval 0 38 v0 rfl rfl) h0
  obtain ⟨a1, rfl, wa1⟩ := open_sk (hval 1 23 v1 rfl rfl) h1
  clear hA0 hval0
  refine (walk A0 f0 cap0 a1 W hs0 hl0).mono fun e W' ⟨he, bel⟩ => ?_
  subst he
  exact ⟨_, rfl, _, _, _, [], _, [], hW', trodAll_mk1 (shut_bool Try.underlying4 _), (trodAll_cons_mk (Below.trod laidOut (by kernel_rfl) (of_decide_eq_true (by kernel_rfl)) k0 bel lt0) (trodAll_cons_mk (Below.trod laidOut (by kernel_rfl) (of_decide_eq_true (by kernel_rfl)) k1 bel lt1) trodAll_mk0)), rfl, bel.frame _, fun h => by cases h⟩

theorem over : Rows.fnExactLeastFiledRow.holds Try.pinned (OpenSpec.ofChange Rows.fnExactLeastFiledSpec) :=
  OpenClaim.holds_of_wide 9 Try.f9 rfl rfl rfl rfl rfl rfl rfl ⟨rfl, rfl, rfl, rfl, rfl⟩ rfl rfl rfl rfl rfl (by kernel_rfl) Try.func9 (by kernel_rfl)
    (of_decide_eq_true (by kernel_rfl)) (by unfold Func.isWrapper; first | (rw [if_pos (by decide +kernel)]; kernel_rfl) | (rw [if_neg (by decide +kernel)]; exact ⟨rfl, rfl⟩))
    (fun os started H enc _ => lifted os started H enc)

theorem proved : Rows.FnExactLeastFiledSaid := over
end Go.Proofs.Ytbbaphhkdhdelaa.fnExactLeastFiled
