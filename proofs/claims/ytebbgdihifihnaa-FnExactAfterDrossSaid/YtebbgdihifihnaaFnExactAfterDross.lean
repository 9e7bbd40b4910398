/-
  FnExactAfterDross: for every input (a melt and an int) the law returns true, and what it was given reads as before. Conditions: none beyond the given statement's own.
-/
import Derived.Test.YtebbgdihifihnaaRows
import Derived.Test.YtebbgdihifihnaaMdr
import Derived.Test.YtebbgdihifihnaaOpenMe
namespace Go.Proofs.Ytebbgdihifihnaa.fnExactAfterDross
open Go.ChangeShapes Go.WideShapes Go.ChangeAt Go.RowKit Go.Joins
open Go.ChangeMaps (open_string shut_string)
set_option linter.unusedVariables false

theorem own : ownKnob Try.prog.godebug = none := by kernel_rfl
theorem laidOut : laidOutB Try.prog = true := by kernel_rfl

set_option maxRecDepth 100000 in
set_option maxHeartbeats 2000000 in
theorem walk (a0 : Me) (a1 : Int) (w : World) (r1 : -9223372036854775808 ≤ a1 ∧ a1 ≤ 9223372036854775807) :
    Calls Try.prog 7 #[.agg #[.int .i64 a0.lea, .int .i64 a0.tin, .int .i64 a0.ant], .int .i64 a1] w fun e w' => e = .returned (.bool true) ∧ Below w.heap.size w w' := by
  obtain ⟨w0, hw0⟩ : ∃ w0 : World, w0 = (w.alloc (.cells #[.int .i64 a0.lea, .int .i64 a0.tin, .int .i64 a0.ant] 23)) := ⟨_, rfl⟩
  have A_0 : Hid (Below w.heap.size w w0) := Lib.hid (show Below _ _ _ by rw [hw0]; exact ((Below.refl _ _).alloc (by simp) _))
  have X0_0 : Hid (MeAt w0 (w.heap.size) 23 a0) := Lib.hid (show MeAt _ _ _ _ by rw [hw0]; exact (MeAt.new _ _ _))
  have HW0 := Lib.hid hw0; clear hw0
  have HR1 := Lib.hid r1; clear r1
  obtain ⟨R0, hR0⟩ : ∃ R, R = drossM a0 a1 := ⟨_, rfl⟩
  have HRR0 := Lib.hid hR0; clear hR0
  go_enter Try.func7, Try.ntmps7
  go_wp2_with fail
  rw [← HW0.out]
  refine (toMelt_any a0 _).mono ?_
  rintro e u1 ⟨rfl, hb1⟩
  have A_1 : Hid (Below w.heap.size w u1) := Lib.hid ((A_0.out).trans (Below.mono hb1 (A_0.out).size))
  have X0_1 : Hid (MeAt u1 (w.heap.size) 23 a0) := Lib.hid ((X0_0.out).next hb1)
  clear A_0 X0_0
  clear hb1
  go_wp2_with fail
  refine (specDross_any a0 a1 _).mono ?_
  rintro e u2 ⟨rfl, hb2⟩
  have A_2 : Hid (Below w.heap.size w u2) := Lib.hid ((A_1.out).trans (Below.mono hb2 (A_1.out).size))
  have X0_2 : Hid (MeAt u2 (w.heap.size) 23 a0) := Lib.hid ((X0_1.out).next hb2)
  clear A_1 X0_1
  clear hb2
  rw [← HRR0.out]
  obtain ⟨q00, q01, q02⟩ := (X0_2.out).cells
  have q0l := (X0_2.out).lt
  obtain ⟨u3, hu3⟩ : ∃ x : World, x = (u2.alloc (.cells #[.int .i64 R0.lea, .int .i64 R0.tin, .int .i64 R0.ant] 25)) := ⟨_, rfl⟩
  have hb3 : Below u2.heap.size u2 u3 := by rw [hu3]; exact ((Below.refl _ _).alloc (by simp) _)
  have hs3 : u2.heap.size < u3.heap.size := by rw [hu3]; simp
  have A_3 : Hid (Below w.heap.size w u3) := Lib.hid ((A_2.out).trans (Below.mono hb3 (A_2.out).size))
  have X0_3 : Hid (MeAt u3 (w.heap.size) 23 a0) := Lib.hid ((X0_2.out).next hb3)
  clear A_2 X0_2
  clear hb3
  have S0_3 : Hid (MeAt u3 u2.heap.size 25 R0) := Lib.hid (show MeAt u3 u2.heap.size 25 R0 by rw [hu3]; exact MeAt.new _ _ _)
  have HW3 := Lib.hid hu3; clear hu3
  go_wp2_with fail
  rw [← HW3.out]
  refine (toMelt_any a0 _).mono ?_
  rintro e u4 ⟨rfl, hb4⟩
  have A_4 : Hid (Below w.heap.size w u4) := Lib.hid ((A_3.out).trans (Below.mono hb4 (A_3.out).size))
  have X0_4 : Hid (MeAt u4 (w.heap.size) 23 a0) := Lib.hid ((X0_3.out).next hb4)
  have S0_4 : Hid (MeAt u4 u2.heap.size 25 R0) := Lib.hid (S0_3.out.next hb4)
  clear A_3 X0_3 S0_3
  clear hb4
  clear q00 q01 q02 q0l
  go_wp2_with fail
  refine (implDross_any a0 a1 _).mono ?_
  rintro e u5 ⟨rfl, hb5⟩
  have A_5 : Hid (Below w.heap.size w u5) := Lib.hid ((A_4.out).trans (Below.mono hb5 (A_4.out).size))
  have X0_5 : Hid (MeAt u5 (w.heap.size) 23 a0) := Lib.hid ((X0_4.out).next hb5)
  have S0_5 : Hid (MeAt u5 u2.heap.size 25 R0) := Lib.hid (S0_4.out.next hb5)
  clear A_4 X0_4 S0_4
  clear hb5
  rw [← HRR0.out]
  obtain ⟨y00, y01, y02⟩ := (S0_5.out).cells
  have y0l := (S0_5.out).lt
  obtain ⟨u6, hu6⟩ : ∃ x : World, x = (u5.alloc (.cells #[.int .i64 R0.lea, .int .i64 R0.tin, .int .i64 R0.ant] 25)) := ⟨_, rfl⟩
  have hb6 : Below u5.heap.size u5 u6 := by rw [hu6]; exact ((Below.refl _ _).alloc (by simp) _)
  have hs6 : u5.heap.size < u6.heap.size := by rw [hu6]; simp
  have A_6 : Hid (Below w.heap.size w u6) := Lib.hid ((A_5.out).trans (Below.mono hb6 (A_5.out).size))
  have X0_6 : Hid (MeAt u6 (w.heap.size) 23 a0) := Lib.hid ((X0_5.out).next hb6)
  have S0_6 : Hid (MeAt u6 u2.heap.size 25 R0) := Lib.hid (S0_5.out.next hb6)
  clear A_5 X0_5 S0_5
  clear hb6
  have G0_6 : Hid (MeAt u6 u5.heap.size 25 R0) := Lib.hid (show MeAt u6 u5.heap.size 25 R0 by rw [hu6]; exact MeAt.new _ _ _)
  have HW6 := Lib.hid hu6; clear hu6
  go_wp2_with fail
  rw [← HW6.out]
  refine (eqMelt_any R0 R0 _).mono ?_
  rintro e u7 ⟨rfl, hb7⟩
  have A_7 : Hid (Below w.heap.size w u7) := Lib.hid ((A_6.out).trans (Below.mono hb7 (A_6.out).size))
  have X0_7 : Hid (MeAt u7 (w.heap.size) 23 a0) := Lib.hid ((X0_6.out).next hb7)
  have S0_7 : Hid (MeAt u7 u2.heap.size 25 R0) := Lib.hid (S0_6.out.next hb7)
  have G0_7 : Hid (MeAt u7 u5.heap.size 25 R0) := Lib.hid (G0_6.out.next hb7)
  clear A_6 X0_6 S0_6 G0_6
  clear hb7
  clear y00 y01 y02 y0l
  rw [show decide (R0 = R0) = true from decide_eq_true rfl]
  generalize drossN a0 a1 = g1 at *
  have hne1 : (g1 != g1) = false := by simp
  generalize drossB a0 a1 = g2 at *
  have hne2 : (g2 != g2) = false := by simp
  go_wp2
  go_ret
  exact ⟨rfl, A_7.out⟩

set_option maxRecDepth 100000 in
theorem lifted (os : Os) (started : os.Started) (H : Type) (enc : TypeId × Value → H) :
    ReturnsInHanded {} Try.checked os 7 .any (Rows.fnExactAfterDrossSpec.pre6 enc Try.prog Try.f7 Rows.fnExactAfterDrossRow.domain false) (Rows.fnExactAfterDrossSpec.post enc Try.prog Try.f7 false true false false) := by
  refine returnsInHanded_of_change (C := Try.checked) own started (by kernel_rfl) Try.func7
    (ChangeSpec.witness6 (enc := enc) (C := Try.checked) false ⟨#[], #[.agg #[.int .i64 0, .int .i64 0, .int .i64 0], .int .i64 0], []⟩ 8 (by kernel_rfl) (by kernel_rfl) (by kernel_rfl) (by kernel_rfl)) ?_
  intro W base args ds gs before hval0 hW hcnd _
  have hval : ∀ (j : Nat) t v, Try.f7.params[j]? = some t → args[j]? = some v → Value.okWide Try.prog W .any base t v := hval0
  have hW' := hW
  obtain ⟨p, q, hA0, hV, rfl, hfz, hnd⟩ := hW
  have hA : DataW.TrodAll enc Try.prog W 0 (fun _ => true) true Try.f7.params.toList args.toList ds p := hA0
  rw [Try.params7] at hA hval
  obtain ⟨v0, vs0, d0, ds0, p0, q0, hargs, rfl, rfl, h0, r0⟩ := trodAll_cons hA
  obtain ⟨v1, vs1, d1, ds1, p1, q1, rfl, rfl, rfl, h1, r1⟩ := trodAll_cons r0
  obtain ⟨rfl, rfl, rfl⟩ := trodAll_nil r1
  obtain rfl : args = #[v0, v1] := by cases args; simp_all
  obtain ⟨rfl, rfl⟩ := trodVars_none hV
  have k0 := h0
  have lt0 : ∀ x ∈ p0, x.block < W.heap.size := by obtain ⟨m, hm⟩ := k0; exact DataW.trod_lt m _ _ _ hm
  have k1 := h1
  have lt1 : ∀ x ∈ p1, x.block < W.heap.size := by obtain ⟨m, hm⟩ := k1; exact DataW.trod_lt m _ _ _ hm
  obtain ⟨a0, rfl, wa0⟩ := open_me (hval 0 23 v0 rfl rfl) h0
  obtain ⟨a1, rfl, rfl, rfl, wa1⟩ := open_int Try.underlying3 (hval 1 3 v1 rfl rfl) h1
  clear hA0 hval0
  refine (walk a0 a1 W (wf_range wa1)).mono fun e W' ⟨he, bel⟩ => ?_
  subst he
  exact ⟨_, rfl, _, _, _, [], _, [], hW', trodAll_mk1 (shut_bool Try.underlying4 _), (trodAll_cons_mk (Below.trod laidOut (by kernel_rfl) (of_decide_eq_true (by kernel_rfl)) k0 bel lt0) (trodAll_cons_mk (Below.trod laidOut (by kernel_rfl) (of_decide_eq_true (by kernel_rfl)) k1 bel lt1) trodAll_mk0)), rfl, bel.frame _, fun h => by cases h⟩

theorem over : Rows.fnExactAfterDrossRow.holds Try.pinned (OpenSpec.ofChange Rows.fnExactAfterDrossSpec) :=
  OpenClaim.holds_of_wide 7 Try.f7 rfl rfl rfl rfl rfl rfl rfl ⟨rfl, rfl, rfl, rfl, rfl⟩ rfl rfl rfl rfl rfl (by kernel_rfl) Try.func7 (by kernel_rfl)
    (of_decide_eq_true (by kernel_rfl)) (by unfold Func.isWrapper; first | (rw [if_pos (by decide +kernel)]; kernel_rfl) | (rw [if_neg (by decide +kernel)]; exact ⟨rfl, rfl⟩))
    (fun os started H enc _ => lifted os started H enc)

theorem proved : Rows.FnExactAfterDrossSaid := over
end Go.Proofs.Ytebbgdihifihnaa.fnExactAfterDross
