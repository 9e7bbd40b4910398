/-
  FnExactCastTime: for every input (a machine and a casting) the law returns true, and what it was given reads as before. Conditions: none beyond the given statement's own.
-/
import Derived.Test.YtpocghcdfpcedaaRows
import Derived.Test.YtpocghcdfpcedaaKr
import Derived.Test.YtpocghcdfpcedaaTail
import Derived.Test.YtpocghcdfpcedaaOpenKc
import Derived.Test.YtpocghcdfpcedaaOpenKm
namespace Go.Proofs.Ytpocghcdfpcedaa.fnExactCastTime
open Go.ChangeShapes Go.WideShapes Go.ChangeAt Go.RowKit Go.Joins
open Go.ChangeMaps (open_string shut_string)
set_option linter.unusedVariables false

theorem own : ownKnob Try.prog.godebug = none := by kernel_rfl
theorem laidOut : laidOutB Try.prog = true := by kernel_rfl

set_option maxRecDepth 100000 in
set_option maxHeartbeats 2000000 in
theorem walk (a0 : Mc) (a1 : Ca) (w : World)  :
    Calls Try.prog 5 #[.agg #[.int .i64 a0.bod, .int .i64 a0.hou, .int .i64 a0.cha], .agg #[.int .i64 a1.bod, .int .i64 a1.cnt]] w fun e w' => e = .returned (.bool true) ∧ Below w.heap.size w w' := by
  obtain ⟨w0, hw0⟩ : ∃ w0 : World, w0 = ((w.alloc (.cells #[.int .i64 a0.bod, .int .i64 a0.hou, .int .i64 a0.cha] 30)).alloc (.cells #[.int .i64 a1.bod, .int .i64 a1.cnt] 36)) := ⟨_, rfl⟩
  have A_0 : Hid (Below w.heap.size w w0) := Lib.hid (show Below _ _ _ by rw [hw0]; exact (((Below.refl _ _).alloc (by simp) _).alloc (by simp) _))
  have X0_0 : Hid (McAt w0 (w.heap.size) 30 a0) := Lib.hid (show McAt _ _ _ _ by rw [hw0]; exact McAt.alloc ((McAt.new _ _ _)) _)
  have X1_0 : Hid (CaAt w0 (w.heap.size + 1) 36 a1) := Lib.hid (show CaAt _ _ _ _ by rw [hw0]; exact heap_alloc2_new _ _ _)
  have HW0 := Lib.hid hw0; clear hw0
  go_enter Try.func5, Try.ntmps5
  obtain ⟨q00, q01, q02⟩ := (X0_0.out).kept (B := w0.heap.size) (X0_0.out).lt
  obtain ⟨q10, q11⟩ := (X1_0.out).kept (B := w0.heap.size) (X1_0.out).lt
  go_wp2_with fail
  rw [← HW0.out]
  refine region_mid w0.heap.size 4 (by kernel_rfl) (by kernel_rfl) rfl ?_
  simp only [List.take_succ_cons, List.take_zero]
  repeat (go_big_quiet_step (fail))
  go_big_quiet_step ((go_at_call 20; exact kept_call _ (Nat.le_refl _) (toMachine_any a0 _)))
  repeat (go_big_quiet_step (fail))
  go_big_quiet_step ((go_at_call 23; exact kept_call _ (Nat.le_refl _) (toCasting_any a1 _)))
  repeat (go_big_quiet_step (fail))
  refine wpQuiet_nil ?_
  intro u1 hb1 K hK
  clear q00 q01 q02 q10 q11
  have A_1 : Hid (Below w.heap.size w u1) := Lib.hid ((A_0.out).trans (Below.mono hb1 (A_0.out).size))
  have X0_1 : Hid (McAt u1 (w.heap.size) 30 a0) := Lib.hid ((X0_0.out).next hb1)
  have X1_1 : Hid (CaAt u1 (w.heap.size + 1) 36 a1) := Lib.hid ((X1_0.out).next hb1)
  clear A_0 X0_0 X1_0
  clear hb1
  go_simp
  go_at_call 22
  refine (specCastTime_any a0 a1 _).mono ?_
  rintro e u2 ⟨rfl, hb2⟩
  have A_2 : Hid (Below w.heap.size w u2) := Lib.hid ((A_1.out).trans (Below.mono hb2 (A_1.out).size))
  have X0_2 : Hid (McAt u2 (w.heap.size) 30 a0) := Lib.hid ((X0_1.out).next hb2)
  have X1_2 : Hid (CaAt u2 (w.heap.size + 1) 36 a1) := Lib.hid ((X1_1.out).next hb2)
  clear A_1 X0_1 X1_1
  clear hb2
  refine hK _ _ ?_
  clear hK
  simp only [List.drop_succ_cons, List.drop_zero]
  repeat (go_big_quiet_step (fail))
  refine wpQuiet_nil ?_
  obtain ⟨q00, q01, q02⟩ := (X0_2.out).kept (B := u2.heap.size) (X0_2.out).lt
  obtain ⟨q10, q11⟩ := (X1_2.out).kept (B := u2.heap.size) (X1_2.out).lt
  go_wp2_with fail
  refine region_mid u2.heap.size 4 (by kernel_rfl) (by kernel_rfl) rfl ?_
  simp only [List.take_succ_cons, List.take_zero]
  repeat (go_big_quiet_step (fail))
  go_big_quiet_step ((go_at_call 20; exact kept_call _ (Nat.le_refl _) (toMachine_any a0 _)))
  repeat (go_big_quiet_step (fail))
  go_big_quiet_step ((go_at_call 23; exact kept_call _ (Nat.le_refl _) (toCasting_any a1 _)))
  repeat (go_big_quiet_step (fail))
  refine wpQuiet_nil ?_
  intro u3 hb3 K hK
  clear q00 q01 q02 q10 q11
  have A_3 : Hid (Below w.heap.size w u3) := Lib.hid ((A_2.out).trans (Below.mono hb3 (A_2.out).size))
  have X0_3 : Hid (McAt u3 (w.heap.size) 30 a0) := Lib.hid ((X0_2.out).next hb3)
  have X1_3 : Hid (CaAt u3 (w.heap.size + 1) 36 a1) := Lib.hid ((X1_2.out).next hb3)
  clear A_2 X0_2 X1_2
  clear hb3
  go_simp
  go_at_call 24
  refine (implCastTime_any a0 a1 _).mono ?_
  rintro e u4 ⟨rfl, hb4⟩
  have A_4 : Hid (Below w.heap.size w u4) := Lib.hid ((A_3.out).trans (Below.mono hb4 (A_3.out).size))
  have X0_4 : Hid (McAt u4 (w.heap.size) 30 a0) := Lib.hid ((X0_3.out).next hb4)
  have X1_4 : Hid (CaAt u4 (w.heap.size + 1) 36 a1) := Lib.hid ((X1_3.out).next hb4)
  clear A_3 X0_3 X1_3
  clear hb4
  refine hK _ _ ?_
  clear hK
  simp only [List.drop_succ_cons, List.drop_zero]
  repeat (go_big_quiet_step (fail))
  refine wpQuiet_nil ?_
  generalize ctV a0 a1 = g0 at *
  have hne0 : (g0 != g0) = false := by simp
  generalize ctB a0 a1 = g1 at *
  have hne1 : (g1 != g1) = false := by simp
  go_wp2
  go_ret
  exact ⟨rfl, A_4.out⟩

set_option maxRecDepth 100000 in
theorem lifted (os : Os) (started : os.Started) (H : Type) (enc : TypeId × Value → H) :
    ReturnsInHanded {} Try.checked os 5 .any (Rows.fnExactCastTimeSpec.pre6 enc Try.prog Try.f5 Rows.fnExactCastTimeRow.domain false) (Rows.fnExactCastTimeSpec.post enc Try.prog Try.f5 false true false false) := by
  refine returnsInHanded_of_change (C := Try.checked) own started (by kernel_rfl) Try.func5
    (ChangeSpec.witness6 (enc := enc) (C := Try.checked) false ⟨#[], #[.agg #[.int .i64 0, .int .i64 0, .int .i64 0], .agg #[.int .i64 0, .int .i64 0]], []⟩ 8 (by kernel_rfl) (by kernel_rfl) (by kernel_rfl) (by kernel_rfl)) ?_
  intro W base args ds gs before hval0 hW hcnd _
  have hval : ∀ (j : Nat) t v, Try.f5.params[j]? = some t → args[j]? = some v → Value.okWide Try.prog W .any base t v := hval0
  have hW' := hW
  obtain ⟨p, q, hA0, hV, rfl, hfz, hnd⟩ := hW
  have hA : DataW.TrodAll enc Try.prog W 0 (fun _ => true) true Try.f5.params.toList args.toList ds p := hA0
  rw [Try.params5] at hA hval
  obtain ⟨v0, vs0, d0, ds0, p0, q0, hargs, rfl, rfl, h0, r0⟩ := trodAll_cons hA
  obtain ⟨v1, vs1, d1, ds1, p1, q1, rfl, rfl, rfl, h1, r1⟩ := trodAll_cons r0
  obtain ⟨rfl, rfl, rfl⟩ := trodAll_nil r1
  obtain rfl : args = #[v0, v1] := by cases args; simp_all
  obtain ⟨rfl, rfl⟩ := trodVars_none hV
  have k0 := h0
  have lt0 : ∀ x ∈ p0, x.block < W.heap.size := by obtain ⟨m, hm⟩ := k0; exact DataW.trod_lt m _ _ _ hm
  have k1 := h1
  have lt1 : ∀ x ∈ p1, x.block < W.heap.size := by obtain ⟨m, hm⟩ := k1; exact DataW.trod_lt m _ _ _ hm
  obtain ⟨a0, rfl, wa0⟩ := open_mc (hval 0 30 v0 rfl rfl) h0
  obtain ⟨a1, rfl, wa1⟩ := open_ca (hval 1 36 v1 rfl rfl) h1
  clear hA0 hval0
  refine (walk a0 a1 W ).mono fun e W' ⟨he, bel⟩ => ?_
  subst he
  exact ⟨_, rfl, _, _, _, [], _, [], hW', trodAll_mk1 (shut_bool Try.underlying4 _), (trodAll_cons_mk (Below.trod laidOut (by kernel_rfl) (of_decide_eq_true (by kernel_rfl)) k0 bel lt0) (trodAll_cons_mk (Below.trod laidOut (by kernel_rfl) (of_decide_eq_true (by kernel_rfl)) k1 bel lt1) trodAll_mk0)), rfl, bel.frame _, fun h => by cases h⟩

theorem over : Rows.fnExactCastTimeRow.holds Try.pinned (OpenSpec.ofChange Rows.fnExactCastTimeSpec) :=
  OpenClaim.holds_of_wide 5 Try.f5 rfl rfl rfl rfl rfl rfl rfl ⟨rfl, rfl, rfl, rfl, rfl⟩ rfl rfl rfl rfl rfl (by kernel_rfl) Try.func5 (by kernel_rfl)
    (of_decide_eq_true (by kernel_rfl)) (by unfold Func.isWrapper; first | (rw [if_pos (by decide +kernel)]; kernel_rfl) | (rw [if_neg (by decide +kernel)]; exact ⟨rfl, rfl⟩))
    (fun os started H enc _ => lifted os started H enc)

theorem proved : Rows.FnExactCastTimeSaid := over
end Go.Proofs.Ytpocghcdfpcedaa.fnExactCastTime
